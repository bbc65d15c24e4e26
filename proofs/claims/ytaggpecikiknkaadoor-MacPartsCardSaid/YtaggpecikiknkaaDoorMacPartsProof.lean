/-
  The law MacParts of package dominolaw03 returns true for every two texts and every number: in how many parts bytes come plays no part; another key, or another text, is told as the document tells it. The tables of package sha hold what the program's text lays.
-/
import Derived.Test.YtaggpecikiknkaaDoorRows
import Derived.Test.YtaggpecikiknkaaDoorCards
import Derived.Test.YtaggpecikiknkaaDoorTie
import Derived.SevenTiedAt
import Derived.WalkKit
import Derived.ProofKit
import Derived.OpenShut
import Derived.ShutString
import Derived.ChangeOld
import Derived.Below
import Derived.LaidMore
import Derived.Stop.Joined
import Derived.Test.YtaggpecikiknkaaDoorMacB
import Derived.Test.YtaggpecikiknkaaDoorMacR
import Derived.Test.YtaggpecikiknkaaDoorLaid
import Derived.Test.YtaggpecikiknkaaDoorHeld
import Derived.Test.YtaggpecikiknkaaDoorCut
namespace Go.Proofs.YtaggpecikiknkaaDoor.macParts
open Go.ChangeShapes Go.WideShapes Go.ChangeAt Go.RowKit
open Go.ChangeMaps (open_string shut_string)
open Go.Shelf Go.Proofs.YtaggpecikiknkaaDoor.Mem Go.Proofs.YtaggpecikiknkaaDoor.Help Go.Proofs.YtaggpecikiknkaaDoor.Sum Go.Proofs.YtaggpecikiknkaaDoor.Sha Go.Proofs.YtaggpecikiknkaaDoor.Mac
set_option linter.unusedVariables false

theorem own : ownKnob Tryd.prog.godebug = none := by kernel_rfl
theorem laidOut : laidOutB Tryd.prog = true := by kernel_rfl

/-- what a slice that came in leads to -/
def IsRow (k : IntKind) (w : World) (a : Option Addr) (len cap : Nat) (zs : List Int) : Prop :=
  (a = none ∧ len = 0 ∧ cap = 0 ∧ zs = []) ∨
  ∃ x, a = some x ∧ len ≤ cap ∧ cap ≤ maxLen ∧ zs.length = cap ∧ (∀ i, i < zs.length → w.cell? (x.add i) = some (.int k (zs.getD i 0))) ∧ ∀ n ∈ zs, (Lit.int k n).wf = true

def laidList : List (String × DataW Unit) := [("domino/sha.start", Rows.laid_domino_sha_start), ("domino/sha.words", Rows.laid_domino_sha_words)]

set_option maxRecDepth 100000 in
set_option maxHeartbeats 16000000 in
theorem start (AK A : Option Addr) (n ck m c : Nat) (zs ys : List Int) (x : Int) (w : World) (hk : Ints w .u8 w.heap.size AK n zs) (hc1 : n ≤ ck) (hc1m : ck ≤ maxLen) (hb : Ints w .u8 w.heap.size A m ys) (hc2 : m ≤ c) (hc2m : c ≤ maxLen) (hfl : Flat A c)
    (hT : Tab w 0 Sum.H0 ∧ Tab w 1 Sum.K) :
    Calls Tryd.prog 8 #[.slice AK n ck, .slice A m c, .int .i64 x] w fun e w' => e = .returned (.bool true) ∧ Below w.heap.size w w' := by
  by_cases hbig : 300 < n ∨ 1000 < m
  · rcases (by omega : 300 < n ∨ (¬ 300 < n ∧ 1000 < m)) with hb | ⟨hb, hb'⟩
    · have q1 : (300 : Int) < (n : Int) := by omega
      go_enter Tryd.func8, Tryd.ntmps8
      go_wp2_with (go_at_call 15; refine (awake3_any _ hT.1 hT.2).mono ?_; rintro e w' ⟨rfl, hb⟩)
      go_ret
      exact ⟨rfl, hb⟩
    · have q1 : ¬ (300 : Int) < (n : Int) := by omega
      have q2 : (1000 : Int) < (m : Int) := by omega
      go_enter Tryd.func8, Tryd.ntmps8
      go_wp2_with (go_at_call 15; refine (awake3_any _ hT.1 hT.2).mono ?_; rintro e w' ⟨rfl, hb⟩)
      go_ret
      exact ⟨rfl, hb⟩
  have hn1 : ¬ (300 : Int) < (n : Int) := by omega
  have hm1 : ¬ (1000 : Int) < (m : Int) := by omega
  have hu0 : 0 ≤ IntKind.u64.wrap x := by rw [IntKind.wrap_u64]; omega
  have hu1 : 0 ≤ IntKind.u64.wrap x % ((m : Int) + 1) := Int.emod_nonneg _ (by omega)
  have hu2 : IntKind.u64.wrap x % ((m : Int) + 1) < (m : Int) + 1 := Int.emod_lt_of_pos _ (by omega)
  obtain ⟨q, hq⟩ : ∃ q : Nat, wrap64 ((IntKind.u64.wrap x).tmod ((m : Int) + 1)) = (q : Int) := ⟨(IntKind.u64.wrap x % ((m : Int) + 1)).toNat, by rw [Int.tmod_eq_emod_of_nonneg hu0]; unfold wrap64; omega⟩
  have hqn : q ≤ m := by rw [Int.tmod_eq_emod_of_nonneg hu0] at hq; unfold wrap64 at hq; omega
  clear hu0 hu1 hu2
  go_enter Tryd.func8, Tryd.ntmps8
  go_wp2_with fail
  have e1 := fun W => run_front (P := Tryd.prog) (t := 24) (e := 5) (n := m) Tryd.underlying24 (by kernel_rfl) hfl (h := q) (by omega) W
  obtain ⟨A2, e2, hf2, hi2⟩ := run_back (P := Tryd.prog) (t := 24) (e := 5) Tryd.underlying24 (by kernel_rfl) hfl hc2 hqn hb
  have hif := hb.front hqn
  have hcm : c ≤ 9223372036854775807 := by simpa [maxLen] using hc2m
  have T9 := (Texts.one hif (show q ≤ c by omega) hc2m).cons (Texts.one hi2 (show m - q ≤ c - q by omega) (Nat.le_trans (Nat.sub_le _ _) hc2m))
  have T13 := Texts.one hb hc2 hc2m
  have T28 := Texts.one hk hc1 hc1m
  have T21 := (Texts.one (Ints.nil w .u8 w.heap.size none) (Nat.le_refl 0) (Nat.zero_le _)).cons (Texts.one (Ints.nil w .u8 w.heap.size none) (Nat.le_refl 0) (Nat.zero_le _))
  have HX9 := Lib.hid (show [ys.take q, ys.drop q].flatten = ys by simp)
  have HX13 := Lib.hid (show [ys].flatten = ys by simp)
  have HX28 := Lib.hid (show [zs].flatten = zs by simp)
  have HX19 := Lib.hid (show ([] : List (List Int)).flatten = [] from rfl)
  have HX21 := Lib.hid (show [([] : List Int), []].flatten = [] from rfl)
  refine wp_region_held (S := fun W => Below w.heap.size w W) (by kernel_rfl) ?_
  change wpAnyH _ _ _ _ _ _ _ _ w.drew
  have c0_0 := (Below.refl w.heap.size w).drew
  refine Held.one 0 (by kernel_rfl) ?_
  refine Held.op_call 0 (some 25) 15 #[] rfl rfl rfl rfl (enters_of Tryd.func15 (by kernel_rfl) rfl) (by simp [Act.eval])
    (awake3_any _ (hT.1.below c0_0 hT.1.lt) (hT.2.below c0_0 hT.2.lt)) ?_
  rintro e w1 ⟨rfl, b1⟩
  have c0_1 := c0_0.trans (b1.mono c0_0.size)
  refine ⟨_, rfl, c0_1, ?_⟩
  simp only [Act.put, List.setIfInBounds_toArray, List.set_cons_zero, List.set_cons_succ]
  refine Held.take (v := .bool true) 1 (some 26) rfl rfl (by kernel_rfl) (by kernel_rfl) (by kernel_rfl) (fun _ _ _ h => h) rfl (Held.y_move rfl rfl) c0_1 ?_
  simp only [Act.put, List.setIfInBounds_toArray, List.set_cons_zero, List.set_cons_succ]
  refine Held.take (v := .slice AK n ck) 2 (some 27) rfl rfl (by kernel_rfl) (by kernel_rfl) (by kernel_rfl) (fun _ _ _ h => h) rfl (Held.y_move rfl rfl) c0_1 ?_
  simp only [Act.put, List.setIfInBounds_toArray, List.set_cons_zero, List.set_cons_succ]
  refine Held.take (v := .slice A m c) 3 (some 28) rfl rfl (by kernel_rfl) (by kernel_rfl) (by kernel_rfl) (fun _ _ _ h => h) rfl (Held.y_move rfl rfl) c0_1 ?_
  simp only [Act.put, List.setIfInBounds_toArray, List.set_cons_zero, List.set_cons_succ]
  refine Held.take (v := .int .i64 (q : Int)) 4 (some 29) rfl rfl (by kernel_rfl) (by kernel_rfl) (by kernel_rfl) (fun _ _ _ h => h) rfl (Held.y_move rfl rfl) c0_1 ?_
  simp only [Act.put, List.setIfInBounds_toArray, List.set_cons_zero, List.set_cons_succ]
  refine Held.take (v := .slice A q c) 5 (some 30) rfl rfl (by kernel_rfl) (by kernel_rfl) (by kernel_rfl) (fun _ _ _ h => h) rfl (Held.y_slice rfl e1) c0_1 ?_
  simp only [Act.put, List.setIfInBounds_toArray, List.set_cons_zero, List.set_cons_succ]
  refine Held.take (v := .slice A m c) 6 (some 31) rfl rfl (by kernel_rfl) (by kernel_rfl) (by kernel_rfl) (fun _ _ _ h => h) rfl (Held.y_move rfl rfl) c0_1 ?_
  simp only [Act.put, List.setIfInBounds_toArray, List.set_cons_zero, List.set_cons_succ]
  refine Held.take (v := .int .i64 (q : Int)) 7 (some 32) rfl rfl (by kernel_rfl) (by kernel_rfl) (by kernel_rfl) (fun _ _ _ h => h) rfl (Held.y_move rfl rfl) c0_1 ?_
  simp only [Act.put, List.setIfInBounds_toArray, List.set_cons_zero, List.set_cons_succ]
  refine Held.take (v := .slice A2 (m - q) (c - q)) 8 (some 33) rfl rfl (by kernel_rfl) (by kernel_rfl) (by kernel_rfl) (fun _ _ _ h => h) rfl (Held.y_slice rfl e2) c0_1 ?_
  simp only [Act.put, List.setIfInBounds_toArray, List.set_cons_zero, List.set_cons_succ]
  refine Held.take (v := .slice AK n ck) 11 (some 36) rfl rfl (by kernel_rfl) (by kernel_rfl) (by kernel_rfl) (fun _ _ _ h => h) rfl (Held.y_move rfl rfl) c0_1 ?_
  simp only [Act.put, List.setIfInBounds_toArray, List.set_cons_zero, List.set_cons_succ]
  refine Held.take (v := .slice A m c) 12 (some 37) rfl rfl (by kernel_rfl) (by kernel_rfl) (by kernel_rfl) (fun _ _ _ h => h) rfl (Held.y_move rfl rfl) c0_1 ?_
  simp only [Act.put, List.setIfInBounds_toArray, List.set_cons_zero, List.set_cons_succ]
  refine Held.two 9 13 (by kernel_rfl) ?_ ?_
  · refine Held.op_build 9 (some 34) 22 24 2 (.slice none 0 0) 24 [.slice A q c, .slice A2 (m - q) (c - q)] rfl rfl rfl rfl Tryd.underlying22 info_bytes (by simp [Act.eval]) (by simp [Value.cells]) (by simp [Value.oneCell']) rfl (by omega) (by omega) ?_
    intro p9 w2 v9 b2
    have c0_2 := c0_1.trans (b2.mono c0_1.size)
    have c2_2 := Below.refl w2.heap.size w2
    refine ⟨c0_2, ?_⟩
    simp only [Act.put, List.setIfInBounds_toArray, List.set_cons_zero, List.set_cons_succ]
    refine Held.two 10 13 (by kernel_rfl) ?_ ?_
    · refine Held.op_call 10 (some 35) 16 #[.slice AK n ck, .slice (some ⟨p9, 0, none⟩) 2 2] rfl rfl rfl rfl (enters_of Tryd.func16 (by kernel_rfl) rfl) (by simp [Act.eval])
        (tag_any _ _ _ _ _ _ _ _ _ _ _ _ (hk.below c0_2) hc1 hc1m (by omega) (v9.below c2_2) ((T9.below c0_2).more c0_2.size) c0_2.size (c2_2.size) (by omega) (by rw [HX9.out, hb.1]; omega) (hT.1.below c0_2 hT.1.lt) (hT.2.below c0_2 hT.2.lt)) ?_
      rw [HX9.out]
      rintro e w3 ⟨rfl, b3⟩
      have c0_3 := c0_2.trans (b3.mono c0_2.size)
      have c2_3 := b3
      refine ⟨_, rfl, c0_3, ?_⟩
      simp only [Act.put, List.setIfInBounds_toArray, List.set_cons_zero, List.set_cons_succ]
      refine Held.one 13 (by kernel_rfl) ?_
      refine Held.op_build 13 (some 38) 22 24 1 (.slice none 0 0) 24 [.slice A m c] rfl rfl rfl rfl Tryd.underlying22 info_bytes (by simp [Act.eval]) (by simp [Value.cells]) (by simp [Value.oneCell']) rfl (by omega) (by omega) ?_
      intro p13 w4 v13 b4
      have c0_4 := c0_3.trans (b4.mono c0_3.size)
      have c2_4 := c2_3.trans (b4.mono c2_3.size)
      have c4_4 := Below.refl w4.heap.size w4
      refine ⟨c0_4, ?_⟩
      simp only [Act.put, List.setIfInBounds_toArray, List.set_cons_zero, List.set_cons_succ]
      refine Held.one 14 (by kernel_rfl) ?_
      refine Held.op_call 14 (some 39) 16 #[.slice AK n ck, .slice (some ⟨p13, 0, none⟩) 1 1] rfl rfl rfl rfl (enters_of Tryd.func16 (by kernel_rfl) rfl) (by simp [Act.eval])
        (tag_any _ _ _ _ _ _ _ _ _ _ _ _ (hk.below c0_4) hc1 hc1m (by omega) (v13.below c4_4) ((T13.below c0_4).more c0_4.size) c0_4.size (c4_4.size) (by omega) (by rw [HX13.out, hb.1]; omega) (hT.1.below c0_4 hT.1.lt) (hT.2.below c0_4 hT.2.lt)) ?_
      rw [HX13.out]
      rintro e w5 ⟨rfl, b5⟩
      have c0_5 := c0_4.trans (b5.mono c0_4.size)
      have c2_5 := c2_4.trans (b5.mono c2_4.size)
      have c4_5 := b5
      refine ⟨_, rfl, c0_5, ?_⟩
      simp only [Act.put, List.setIfInBounds_toArray, List.set_cons_zero, List.set_cons_succ]
      refine Held.take (v := .bool true) 15 (some 40) rfl rfl (by kernel_rfl) (by kernel_rfl) (by kernel_rfl) (fun _ _ _ h => h) rfl (Held.y_eql rfl rfl rfl (by kernel_rfl) Tryd.underlying26 Tryd.underlying5 (by kernel_rfl) (tag_length _ _)) c0_5 ?_
      simp only [Act.put, List.setIfInBounds_toArray, List.set_cons_zero, List.set_cons_succ]
      refine Held.take (v := .bool true) 16 (some 41) rfl rfl (by kernel_rfl) (by kernel_rfl) (by kernel_rfl) (fun _ _ _ h => h) rfl (Held.y_pick rfl rfl rfl) c0_5 ?_
      simp only [Act.put, List.setIfInBounds_toArray, List.set_cons_zero, List.set_cons_succ]
      refine Held.take (v := .bool true) 17 (some 42) rfl rfl (by kernel_rfl) (by kernel_rfl) (by kernel_rfl) (fun _ _ _ h => h) rfl (Held.y_move rfl rfl) c0_5 ?_
      simp only [Act.put, List.setIfInBounds_toArray, List.set_cons_zero, List.set_cons_succ]
      refine Held.take (v := .slice AK n ck) 18 (some 43) rfl rfl (by kernel_rfl) (by kernel_rfl) (by kernel_rfl) (fun _ _ _ h => h) rfl (Held.y_move rfl rfl) c0_5 ?_
      simp only [Act.put, List.setIfInBounds_toArray, List.set_cons_zero, List.set_cons_succ]
      refine Held.take (v := .slice AK n ck) 20 (some 45) rfl rfl (by kernel_rfl) (by kernel_rfl) (by kernel_rfl) (fun _ _ _ h => h) rfl (Held.y_move rfl rfl) c0_5 ?_
      simp only [Act.put, List.setIfInBounds_toArray, List.set_cons_zero, List.set_cons_succ]
      refine Held.two 19 21 (by kernel_rfl) ?_ ?_
      · refine Held.op_call 19 (some 44) 16 #[.slice AK n ck, .slice none 0 0] rfl rfl rfl rfl (enters_of Tryd.func16 (by kernel_rfl) rfl) (by simp [Act.eval])
          (tag_any _ _ _ _ _ _ _ _ _ _ _ _ (hk.below c0_5) hc1 hc1m (by omega) (Vals.nil _ w.heap.size _) (Texts.nil _ w.heap.size) c0_5.size (c0_5.size) (by omega) (by simp) (hT.1.below c0_5 hT.1.lt) (hT.2.below c0_5 hT.2.lt)) ?_
        rw [HX19.out]
        rintro e w6 ⟨rfl, b6⟩
        have c0_6 := c0_5.trans (b6.mono c0_5.size)
        have c2_6 := c2_5.trans (b6.mono c2_5.size)
        have c4_6 := c4_5.trans (b6.mono c4_5.size)
        refine ⟨_, rfl, c0_6, ?_⟩
        simp only [Act.put, List.setIfInBounds_toArray, List.set_cons_zero, List.set_cons_succ]
        refine Held.one 21 (by kernel_rfl) ?_
        refine Held.op_build 21 (some 46) 22 24 2 (.slice none 0 0) 24 [(.slice none 0 0), (.slice none 0 0)] rfl rfl rfl rfl Tryd.underlying22 info_bytes (by simp [Act.eval]) (by simp [Value.cells]) (by simp [Value.oneCell']) rfl (by omega) (by omega) ?_
        intro p21 w7 v21 b7
        have c0_7 := c0_6.trans (b7.mono c0_6.size)
        have c2_7 := c2_6.trans (b7.mono c2_6.size)
        have c4_7 := c4_6.trans (b7.mono c4_6.size)
        have c7_7 := Below.refl w7.heap.size w7
        refine ⟨c0_7, ?_⟩
        simp only [Act.put, List.setIfInBounds_toArray, List.set_cons_zero, List.set_cons_succ]
        refine Held.one 22 (by kernel_rfl) ?_
        refine Held.op_call 22 (some 47) 16 #[.slice AK n ck, .slice (some ⟨p21, 0, none⟩) 2 2] rfl rfl rfl rfl (enters_of Tryd.func16 (by kernel_rfl) rfl) (by simp [Act.eval])
          (tag_any _ _ _ _ _ _ _ _ _ _ _ _ (hk.below c0_7) hc1 hc1m (by omega) (v21.below c7_7) ((T21.below c0_7).more c0_7.size) c0_7.size (c7_7.size) (by omega) (by simp) (hT.1.below c0_7 hT.1.lt) (hT.2.below c0_7 hT.2.lt)) ?_
        rw [HX21.out]
        rintro e w8 ⟨rfl, b8⟩
        have c0_8 := c0_7.trans (b8.mono c0_7.size)
        have c2_8 := c2_7.trans (b8.mono c2_7.size)
        have c4_8 := c4_7.trans (b8.mono c4_7.size)
        have c7_8 := b8
        refine ⟨_, rfl, c0_8, ?_⟩
        simp only [Act.put, List.setIfInBounds_toArray, List.set_cons_zero, List.set_cons_succ]
        refine Held.take (v := .bool true) 23 (some 48) rfl rfl (by kernel_rfl) (by kernel_rfl) (by kernel_rfl) (fun _ _ _ h => h) rfl (Held.y_eql rfl rfl rfl (by kernel_rfl) Tryd.underlying26 Tryd.underlying5 (by kernel_rfl) (tag_length _ _)) c0_8 ?_
        simp only [Act.put, List.setIfInBounds_toArray, List.set_cons_zero, List.set_cons_succ]
        refine Held.take (v := .bool true) 24 (some 49) rfl rfl (by kernel_rfl) (by kernel_rfl) (by kernel_rfl) (fun _ _ _ h => h) rfl (Held.y_pick rfl rfl rfl) c0_8 ?_
        simp only [Act.put, List.setIfInBounds_toArray, List.set_cons_zero, List.set_cons_succ]
        refine Held.take (v := .bool true) 25 (some 50) rfl rfl (by kernel_rfl) (by kernel_rfl) (by kernel_rfl) (fun _ _ _ h => h) rfl (Held.y_move rfl rfl) c0_8 ?_
        simp only [Act.put, List.setIfInBounds_toArray, List.set_cons_zero, List.set_cons_succ]
        refine Held.take (v := .slice A m c) 26 (some 51) rfl rfl (by kernel_rfl) (by kernel_rfl) (by kernel_rfl) (fun _ _ _ h => h) rfl (Held.y_move rfl rfl) c0_8 ?_
        simp only [Act.put, List.setIfInBounds_toArray, List.set_cons_zero, List.set_cons_succ]
        refine Held.take (v := .slice AK n ck) 27 (some 52) rfl rfl (by kernel_rfl) (by kernel_rfl) (by kernel_rfl) (fun _ _ _ h => h) rfl (Held.y_move rfl rfl) c0_8 ?_
        simp only [Act.put, List.setIfInBounds_toArray, List.set_cons_zero, List.set_cons_succ]
        refine Held.take (v := .slice A m c) 30 (some 55) rfl rfl (by kernel_rfl) (by kernel_rfl) (by kernel_rfl) (fun _ _ _ h => h) rfl (Held.y_move rfl rfl) c0_8 ?_
        simp only [Act.put, List.setIfInBounds_toArray, List.set_cons_zero, List.set_cons_succ]
        refine Held.take (v := .slice AK n ck) 31 (some 56) rfl rfl (by kernel_rfl) (by kernel_rfl) (by kernel_rfl) (fun _ _ _ h => h) rfl (Held.y_move rfl rfl) c0_8 ?_
        simp only [Act.put, List.setIfInBounds_toArray, List.set_cons_zero, List.set_cons_succ]
        refine Held.one 28 (by kernel_rfl) ?_
        refine Held.op_build 28 (some 53) 22 24 1 (.slice none 0 0) 24 [.slice AK n ck] rfl rfl rfl rfl Tryd.underlying22 info_bytes (by simp [Act.eval]) (by simp [Value.cells]) (by simp [Value.oneCell']) rfl (by omega) (by omega) ?_
        intro p28 w9 v28 b9
        have c0_9 := c0_8.trans (b9.mono c0_8.size)
        have c2_9 := c2_8.trans (b9.mono c2_8.size)
        have c4_9 := c4_8.trans (b9.mono c4_8.size)
        have c7_9 := c7_8.trans (b9.mono c7_8.size)
        have c9_9 := Below.refl w9.heap.size w9
        refine ⟨c0_9, ?_⟩
        simp only [Act.put, List.setIfInBounds_toArray, List.set_cons_zero, List.set_cons_succ]
        refine Held.one 29 (by kernel_rfl) ?_
        refine Held.op_call 29 (some 54) 16 #[.slice A m c, .slice (some ⟨p28, 0, none⟩) 1 1] rfl rfl rfl rfl (enters_of Tryd.func16 (by kernel_rfl) rfl) (by simp [Act.eval])
          (tag_any _ _ _ _ _ _ _ _ _ _ _ _ (hb.below c0_9) hc2 hc2m (by omega) (v28.below c9_9) ((T28.below c0_9).more c0_9.size) c0_9.size (c9_9.size) (by omega) (by rw [HX28.out, hk.1]; omega) (hT.1.below c0_9 hT.1.lt) (hT.2.below c0_9 hT.2.lt)) ?_
        rw [HX28.out]
        rintro e w10 ⟨rfl, b10⟩
        have c0_10 := c0_9.trans (b10.mono c0_9.size)
        have c2_10 := c2_9.trans (b10.mono c2_9.size)
        have c4_10 := c4_9.trans (b10.mono c4_9.size)
        have c7_10 := c7_9.trans (b10.mono c7_9.size)
        have c9_10 := b10
        refine ⟨_, rfl, c0_10, ?_⟩
        simp only [Act.put, List.setIfInBounds_toArray, List.set_cons_zero, List.set_cons_succ]
        refine Held.one 32 (by kernel_rfl) ?_
        refine Held.op_call 32 (some 57) 17 #[.slice A m c, .slice AK n ck] rfl rfl rfl rfl (enters_of Tryd.func17 (by kernel_rfl) rfl) (by simp [Act.eval])
          (rtag_any _ _ _ _ _ _ _ _ _ _ _ (hb.below c0_10) c0_10.size (by omega) (hk.below c0_10) c0_10.size (by omega)) ?_
        rintro e w11 ⟨rfl, b11⟩
        have c0_11 := c0_10.trans (b11.mono c0_10.size)
        have c2_11 := c2_10.trans (b11.mono c2_10.size)
        have c4_11 := c4_10.trans (b11.mono c4_10.size)
        have c7_11 := c7_10.trans (b11.mono c7_10.size)
        have c9_11 := c9_10.trans (b11.mono c9_10.size)
        refine ⟨_, rfl, c0_11, ?_⟩
        simp only [Act.put, List.setIfInBounds_toArray, List.set_cons_zero, List.set_cons_succ]
        refine Held.take (v := .bool true) 33 (some 58) rfl rfl (by kernel_rfl) (by kernel_rfl) (by kernel_rfl) (fun _ _ _ h => h) rfl (Held.y_eql rfl rfl rfl (by kernel_rfl) Tryd.underlying26 Tryd.underlying5 (by kernel_rfl) (tag_length _ _)) c0_11 ?_
        simp only [Act.put, List.setIfInBounds_toArray, List.set_cons_zero, List.set_cons_succ]
        refine Held.take (v := .bool true) 34 (some 59) rfl rfl (by kernel_rfl) (by kernel_rfl) (by kernel_rfl) (fun _ _ _ h => h) rfl (Held.y_pick rfl rfl rfl) c0_11 ?_
        simp only [Act.put, List.setIfInBounds_toArray, List.set_cons_zero, List.set_cons_succ]
        refine Held.take (v := .bool true) 35 (some 6) rfl rfl (by kernel_rfl) (by kernel_rfl) (by kernel_rfl) (fun _ _ _ h => h) rfl (Held.y_assign rfl rfl) c0_11 ?_
        simp only [Act.put, List.setIfInBounds_toArray, List.set_cons_zero, List.set_cons_succ]
        refine wpAnyH_done (by kernel_rfl) ?_ _
        go_wp2_with fail
        go_ret
        exact ⟨rfl, c0_11⟩
      · refine Held.op_build 21 (some 46) 22 24 2 (.slice none 0 0) 24 [(.slice none 0 0), (.slice none 0 0)] rfl rfl rfl rfl Tryd.underlying22 info_bytes (by simp [Act.eval]) (by simp [Value.cells]) (by simp [Value.oneCell']) rfl (by omega) (by omega) ?_
        intro p21 w6 v21 b6
        have c0_6 := c0_5.trans (b6.mono c0_5.size)
        have c2_6 := c2_5.trans (b6.mono c2_5.size)
        have c4_6 := c4_5.trans (b6.mono c4_5.size)
        have c6_6 := Below.refl w6.heap.size w6
        refine ⟨c0_6, ?_⟩
        simp only [Act.put, List.setIfInBounds_toArray, List.set_cons_zero, List.set_cons_succ]
        refine Held.one 19 (by kernel_rfl) ?_
        refine Held.op_call 19 (some 44) 16 #[.slice AK n ck, .slice none 0 0] rfl rfl rfl rfl (enters_of Tryd.func16 (by kernel_rfl) rfl) (by simp [Act.eval])
          (tag_any _ _ _ _ _ _ _ _ _ _ _ _ (hk.below c0_6) hc1 hc1m (by omega) (Vals.nil _ w.heap.size _) (Texts.nil _ w.heap.size) c0_6.size (c0_6.size) (by omega) (by simp) (hT.1.below c0_6 hT.1.lt) (hT.2.below c0_6 hT.2.lt)) ?_
        rw [HX19.out]
        rintro e w7 ⟨rfl, b7⟩
        have c0_7 := c0_6.trans (b7.mono c0_6.size)
        have c2_7 := c2_6.trans (b7.mono c2_6.size)
        have c4_7 := c4_6.trans (b7.mono c4_6.size)
        have c6_7 := b7
        refine ⟨_, rfl, c0_7, ?_⟩
        simp only [Act.put, List.setIfInBounds_toArray, List.set_cons_zero, List.set_cons_succ]
        refine Held.one 22 (by kernel_rfl) ?_
        refine Held.op_call 22 (some 47) 16 #[.slice AK n ck, .slice (some ⟨p21, 0, none⟩) 2 2] rfl rfl rfl rfl (enters_of Tryd.func16 (by kernel_rfl) rfl) (by simp [Act.eval])
          (tag_any _ _ _ _ _ _ _ _ _ _ _ _ (hk.below c0_7) hc1 hc1m (by omega) (v21.below c6_7) ((T21.below c0_7).more c0_6.size) c0_7.size (c6_7.size) (by omega) (by simp) (hT.1.below c0_7 hT.1.lt) (hT.2.below c0_7 hT.2.lt)) ?_
        rw [HX21.out]
        rintro e w8 ⟨rfl, b8⟩
        have c0_8 := c0_7.trans (b8.mono c0_7.size)
        have c2_8 := c2_7.trans (b8.mono c2_7.size)
        have c4_8 := c4_7.trans (b8.mono c4_7.size)
        have c6_8 := c6_7.trans (b8.mono c6_7.size)
        refine ⟨_, rfl, c0_8, ?_⟩
        simp only [Act.put, List.setIfInBounds_toArray, List.set_cons_zero, List.set_cons_succ]
        refine Held.take (v := .bool true) 23 (some 48) rfl rfl (by kernel_rfl) (by kernel_rfl) (by kernel_rfl) (fun _ _ _ h => h) rfl (Held.y_eql rfl rfl rfl (by kernel_rfl) Tryd.underlying26 Tryd.underlying5 (by kernel_rfl) (tag_length _ _)) c0_8 ?_
        simp only [Act.put, List.setIfInBounds_toArray, List.set_cons_zero, List.set_cons_succ]
        refine Held.take (v := .bool true) 24 (some 49) rfl rfl (by kernel_rfl) (by kernel_rfl) (by kernel_rfl) (fun _ _ _ h => h) rfl (Held.y_pick rfl rfl rfl) c0_8 ?_
        simp only [Act.put, List.setIfInBounds_toArray, List.set_cons_zero, List.set_cons_succ]
        refine Held.take (v := .bool true) 25 (some 50) rfl rfl (by kernel_rfl) (by kernel_rfl) (by kernel_rfl) (fun _ _ _ h => h) rfl (Held.y_move rfl rfl) c0_8 ?_
        simp only [Act.put, List.setIfInBounds_toArray, List.set_cons_zero, List.set_cons_succ]
        refine Held.take (v := .slice A m c) 26 (some 51) rfl rfl (by kernel_rfl) (by kernel_rfl) (by kernel_rfl) (fun _ _ _ h => h) rfl (Held.y_move rfl rfl) c0_8 ?_
        simp only [Act.put, List.setIfInBounds_toArray, List.set_cons_zero, List.set_cons_succ]
        refine Held.take (v := .slice AK n ck) 27 (some 52) rfl rfl (by kernel_rfl) (by kernel_rfl) (by kernel_rfl) (fun _ _ _ h => h) rfl (Held.y_move rfl rfl) c0_8 ?_
        simp only [Act.put, List.setIfInBounds_toArray, List.set_cons_zero, List.set_cons_succ]
        refine Held.take (v := .slice A m c) 30 (some 55) rfl rfl (by kernel_rfl) (by kernel_rfl) (by kernel_rfl) (fun _ _ _ h => h) rfl (Held.y_move rfl rfl) c0_8 ?_
        simp only [Act.put, List.setIfInBounds_toArray, List.set_cons_zero, List.set_cons_succ]
        refine Held.take (v := .slice AK n ck) 31 (some 56) rfl rfl (by kernel_rfl) (by kernel_rfl) (by kernel_rfl) (fun _ _ _ h => h) rfl (Held.y_move rfl rfl) c0_8 ?_
        simp only [Act.put, List.setIfInBounds_toArray, List.set_cons_zero, List.set_cons_succ]
        refine Held.one 28 (by kernel_rfl) ?_
        refine Held.op_build 28 (some 53) 22 24 1 (.slice none 0 0) 24 [.slice AK n ck] rfl rfl rfl rfl Tryd.underlying22 info_bytes (by simp [Act.eval]) (by simp [Value.cells]) (by simp [Value.oneCell']) rfl (by omega) (by omega) ?_
        intro p28 w9 v28 b9
        have c0_9 := c0_8.trans (b9.mono c0_8.size)
        have c2_9 := c2_8.trans (b9.mono c2_8.size)
        have c4_9 := c4_8.trans (b9.mono c4_8.size)
        have c6_9 := c6_8.trans (b9.mono c6_8.size)
        have c9_9 := Below.refl w9.heap.size w9
        refine ⟨c0_9, ?_⟩
        simp only [Act.put, List.setIfInBounds_toArray, List.set_cons_zero, List.set_cons_succ]
        refine Held.one 29 (by kernel_rfl) ?_
        refine Held.op_call 29 (some 54) 16 #[.slice A m c, .slice (some ⟨p28, 0, none⟩) 1 1] rfl rfl rfl rfl (enters_of Tryd.func16 (by kernel_rfl) rfl) (by simp [Act.eval])
          (tag_any _ _ _ _ _ _ _ _ _ _ _ _ (hb.below c0_9) hc2 hc2m (by omega) (v28.below c9_9) ((T28.below c0_9).more c0_9.size) c0_9.size (c9_9.size) (by omega) (by rw [HX28.out, hk.1]; omega) (hT.1.below c0_9 hT.1.lt) (hT.2.below c0_9 hT.2.lt)) ?_
        rw [HX28.out]
        rintro e w10 ⟨rfl, b10⟩
        have c0_10 := c0_9.trans (b10.mono c0_9.size)
        have c2_10 := c2_9.trans (b10.mono c2_9.size)
        have c4_10 := c4_9.trans (b10.mono c4_9.size)
        have c6_10 := c6_9.trans (b10.mono c6_9.size)
        have c9_10 := b10
        refine ⟨_, rfl, c0_10, ?_⟩
        simp only [Act.put, List.setIfInBounds_toArray, List.set_cons_zero, List.set_cons_succ]
        refine Held.one 32 (by kernel_rfl) ?_
        refine Held.op_call 32 (some 57) 17 #[.slice A m c, .slice AK n ck] rfl rfl rfl rfl (enters_of Tryd.func17 (by kernel_rfl) rfl) (by simp [Act.eval])
          (rtag_any _ _ _ _ _ _ _ _ _ _ _ (hb.below c0_10) c0_10.size (by omega) (hk.below c0_10) c0_10.size (by omega)) ?_
        rintro e w11 ⟨rfl, b11⟩
        have c0_11 := c0_10.trans (b11.mono c0_10.size)
        have c2_11 := c2_10.trans (b11.mono c2_10.size)
        have c4_11 := c4_10.trans (b11.mono c4_10.size)
        have c6_11 := c6_10.trans (b11.mono c6_10.size)
        have c9_11 := c9_10.trans (b11.mono c9_10.size)
        refine ⟨_, rfl, c0_11, ?_⟩
        simp only [Act.put, List.setIfInBounds_toArray, List.set_cons_zero, List.set_cons_succ]
        refine Held.take (v := .bool true) 33 (some 58) rfl rfl (by kernel_rfl) (by kernel_rfl) (by kernel_rfl) (fun _ _ _ h => h) rfl (Held.y_eql rfl rfl rfl (by kernel_rfl) Tryd.underlying26 Tryd.underlying5 (by kernel_rfl) (tag_length _ _)) c0_11 ?_
        simp only [Act.put, List.setIfInBounds_toArray, List.set_cons_zero, List.set_cons_succ]
        refine Held.take (v := .bool true) 34 (some 59) rfl rfl (by kernel_rfl) (by kernel_rfl) (by kernel_rfl) (fun _ _ _ h => h) rfl (Held.y_pick rfl rfl rfl) c0_11 ?_
        simp only [Act.put, List.setIfInBounds_toArray, List.set_cons_zero, List.set_cons_succ]
        refine Held.take (v := .bool true) 35 (some 6) rfl rfl (by kernel_rfl) (by kernel_rfl) (by kernel_rfl) (fun _ _ _ h => h) rfl (Held.y_assign rfl rfl) c0_11 ?_
        simp only [Act.put, List.setIfInBounds_toArray, List.set_cons_zero, List.set_cons_succ]
        refine wpAnyH_done (by kernel_rfl) ?_ _
        go_wp2_with fail
        go_ret
        exact ⟨rfl, c0_11⟩
    · refine Held.op_build 13 (some 38) 22 24 1 (.slice none 0 0) 24 [.slice A m c] rfl rfl rfl rfl Tryd.underlying22 info_bytes (by simp [Act.eval]) (by simp [Value.cells]) (by simp [Value.oneCell']) rfl (by omega) (by omega) ?_
      intro p13 w3 v13 b3
      have c0_3 := c0_2.trans (b3.mono c0_2.size)
      have c2_3 := b3
      have c3_3 := Below.refl w3.heap.size w3
      refine ⟨c0_3, ?_⟩
      simp only [Act.put, List.setIfInBounds_toArray, List.set_cons_zero, List.set_cons_succ]
      refine Held.one 10 (by kernel_rfl) ?_
      refine Held.op_call 10 (some 35) 16 #[.slice AK n ck, .slice (some ⟨p9, 0, none⟩) 2 2] rfl rfl rfl rfl (enters_of Tryd.func16 (by kernel_rfl) rfl) (by simp [Act.eval])
        (tag_any _ _ _ _ _ _ _ _ _ _ _ _ (hk.below c0_3) hc1 hc1m (by omega) (v9.below c2_3) ((T9.below c0_3).more c0_2.size) c0_3.size (c2_3.size) (by omega) (by rw [HX9.out, hb.1]; omega) (hT.1.below c0_3 hT.1.lt) (hT.2.below c0_3 hT.2.lt)) ?_
      rw [HX9.out]
      rintro e w4 ⟨rfl, b4⟩
      have c0_4 := c0_3.trans (b4.mono c0_3.size)
      have c2_4 := c2_3.trans (b4.mono c2_3.size)
      have c3_4 := b4
      refine ⟨_, rfl, c0_4, ?_⟩
      simp only [Act.put, List.setIfInBounds_toArray, List.set_cons_zero, List.set_cons_succ]
      refine Held.one 14 (by kernel_rfl) ?_
      refine Held.op_call 14 (some 39) 16 #[.slice AK n ck, .slice (some ⟨p13, 0, none⟩) 1 1] rfl rfl rfl rfl (enters_of Tryd.func16 (by kernel_rfl) rfl) (by simp [Act.eval])
        (tag_any _ _ _ _ _ _ _ _ _ _ _ _ (hk.below c0_4) hc1 hc1m (by omega) (v13.below c3_4) ((T13.below c0_4).more c0_3.size) c0_4.size (c3_4.size) (by omega) (by rw [HX13.out, hb.1]; omega) (hT.1.below c0_4 hT.1.lt) (hT.2.below c0_4 hT.2.lt)) ?_
      rw [HX13.out]
      rintro e w5 ⟨rfl, b5⟩
      have c0_5 := c0_4.trans (b5.mono c0_4.size)
      have c2_5 := c2_4.trans (b5.mono c2_4.size)
      have c3_5 := c3_4.trans (b5.mono c3_4.size)
      refine ⟨_, rfl, c0_5, ?_⟩
      simp only [Act.put, List.setIfInBounds_toArray, List.set_cons_zero, List.set_cons_succ]
      refine Held.take (v := .bool true) 15 (some 40) rfl rfl (by kernel_rfl) (by kernel_rfl) (by kernel_rfl) (fun _ _ _ h => h) rfl (Held.y_eql rfl rfl rfl (by kernel_rfl) Tryd.underlying26 Tryd.underlying5 (by kernel_rfl) (tag_length _ _)) c0_5 ?_
      simp only [Act.put, List.setIfInBounds_toArray, List.set_cons_zero, List.set_cons_succ]
      refine Held.take (v := .bool true) 16 (some 41) rfl rfl (by kernel_rfl) (by kernel_rfl) (by kernel_rfl) (fun _ _ _ h => h) rfl (Held.y_pick rfl rfl rfl) c0_5 ?_
      simp only [Act.put, List.setIfInBounds_toArray, List.set_cons_zero, List.set_cons_succ]
      refine Held.take (v := .bool true) 17 (some 42) rfl rfl (by kernel_rfl) (by kernel_rfl) (by kernel_rfl) (fun _ _ _ h => h) rfl (Held.y_move rfl rfl) c0_5 ?_
      simp only [Act.put, List.setIfInBounds_toArray, List.set_cons_zero, List.set_cons_succ]
      refine Held.take (v := .slice AK n ck) 18 (some 43) rfl rfl (by kernel_rfl) (by kernel_rfl) (by kernel_rfl) (fun _ _ _ h => h) rfl (Held.y_move rfl rfl) c0_5 ?_
      simp only [Act.put, List.setIfInBounds_toArray, List.set_cons_zero, List.set_cons_succ]
      refine Held.take (v := .slice AK n ck) 20 (some 45) rfl rfl (by kernel_rfl) (by kernel_rfl) (by kernel_rfl) (fun _ _ _ h => h) rfl (Held.y_move rfl rfl) c0_5 ?_
      simp only [Act.put, List.setIfInBounds_toArray, List.set_cons_zero, List.set_cons_succ]
      refine Held.two 19 21 (by kernel_rfl) ?_ ?_
      · refine Held.op_call 19 (some 44) 16 #[.slice AK n ck, .slice none 0 0] rfl rfl rfl rfl (enters_of Tryd.func16 (by kernel_rfl) rfl) (by simp [Act.eval])
          (tag_any _ _ _ _ _ _ _ _ _ _ _ _ (hk.below c0_5) hc1 hc1m (by omega) (Vals.nil _ w.heap.size _) (Texts.nil _ w.heap.size) c0_5.size (c0_5.size) (by omega) (by simp) (hT.1.below c0_5 hT.1.lt) (hT.2.below c0_5 hT.2.lt)) ?_
        rw [HX19.out]
        rintro e w6 ⟨rfl, b6⟩
        have c0_6 := c0_5.trans (b6.mono c0_5.size)
        have c2_6 := c2_5.trans (b6.mono c2_5.size)
        have c3_6 := c3_5.trans (b6.mono c3_5.size)
        refine ⟨_, rfl, c0_6, ?_⟩
        simp only [Act.put, List.setIfInBounds_toArray, List.set_cons_zero, List.set_cons_succ]
        refine Held.one 21 (by kernel_rfl) ?_
        refine Held.op_build 21 (some 46) 22 24 2 (.slice none 0 0) 24 [(.slice none 0 0), (.slice none 0 0)] rfl rfl rfl rfl Tryd.underlying22 info_bytes (by simp [Act.eval]) (by simp [Value.cells]) (by simp [Value.oneCell']) rfl (by omega) (by omega) ?_
        intro p21 w7 v21 b7
        have c0_7 := c0_6.trans (b7.mono c0_6.size)
        have c2_7 := c2_6.trans (b7.mono c2_6.size)
        have c3_7 := c3_6.trans (b7.mono c3_6.size)
        have c7_7 := Below.refl w7.heap.size w7
        refine ⟨c0_7, ?_⟩
        simp only [Act.put, List.setIfInBounds_toArray, List.set_cons_zero, List.set_cons_succ]
        refine Held.one 22 (by kernel_rfl) ?_
        refine Held.op_call 22 (some 47) 16 #[.slice AK n ck, .slice (some ⟨p21, 0, none⟩) 2 2] rfl rfl rfl rfl (enters_of Tryd.func16 (by kernel_rfl) rfl) (by simp [Act.eval])
          (tag_any _ _ _ _ _ _ _ _ _ _ _ _ (hk.below c0_7) hc1 hc1m (by omega) (v21.below c7_7) ((T21.below c0_7).more c0_7.size) c0_7.size (c7_7.size) (by omega) (by simp) (hT.1.below c0_7 hT.1.lt) (hT.2.below c0_7 hT.2.lt)) ?_
        rw [HX21.out]
        rintro e w8 ⟨rfl, b8⟩
        have c0_8 := c0_7.trans (b8.mono c0_7.size)
        have c2_8 := c2_7.trans (b8.mono c2_7.size)
        have c3_8 := c3_7.trans (b8.mono c3_7.size)
        have c7_8 := b8
        refine ⟨_, rfl, c0_8, ?_⟩
        simp only [Act.put, List.setIfInBounds_toArray, List.set_cons_zero, List.set_cons_succ]
        refine Held.take (v := .bool true) 23 (some 48) rfl rfl (by kernel_rfl) (by kernel_rfl) (by kernel_rfl) (fun _ _ _ h => h) rfl (Held.y_eql rfl rfl rfl (by kernel_rfl) Tryd.underlying26 Tryd.underlying5 (by kernel_rfl) (tag_length _ _)) c0_8 ?_
        simp only [Act.put, List.setIfInBounds_toArray, List.set_cons_zero, List.set_cons_succ]
        refine Held.take (v := .bool true) 24 (some 49) rfl rfl (by kernel_rfl) (by kernel_rfl) (by kernel_rfl) (fun _ _ _ h => h) rfl (Held.y_pick rfl rfl rfl) c0_8 ?_
        simp only [Act.put, List.setIfInBounds_toArray, List.set_cons_zero, List.set_cons_succ]
        refine Held.take (v := .bool true) 25 (some 50) rfl rfl (by kernel_rfl) (by kernel_rfl) (by kernel_rfl) (fun _ _ _ h => h) rfl (Held.y_move rfl rfl) c0_8 ?_
        simp only [Act.put, List.setIfInBounds_toArray, List.set_cons_zero, List.set_cons_succ]
        refine Held.take (v := .slice A m c) 26 (some 51) rfl rfl (by kernel_rfl) (by kernel_rfl) (by kernel_rfl) (fun _ _ _ h => h) rfl (Held.y_move rfl rfl) c0_8 ?_
        simp only [Act.put, List.setIfInBounds_toArray, List.set_cons_zero, List.set_cons_succ]
        refine Held.take (v := .slice AK n ck) 27 (some 52) rfl rfl (by kernel_rfl) (by kernel_rfl) (by kernel_rfl) (fun _ _ _ h => h) rfl (Held.y_move rfl rfl) c0_8 ?_
        simp only [Act.put, List.setIfInBounds_toArray, List.set_cons_zero, List.set_cons_succ]
        refine Held.take (v := .slice A m c) 30 (some 55) rfl rfl (by kernel_rfl) (by kernel_rfl) (by kernel_rfl) (fun _ _ _ h => h) rfl (Held.y_move rfl rfl) c0_8 ?_
        simp only [Act.put, List.setIfInBounds_toArray, List.set_cons_zero, List.set_cons_succ]
        refine Held.take (v := .slice AK n ck) 31 (some 56) rfl rfl (by kernel_rfl) (by kernel_rfl) (by kernel_rfl) (fun _ _ _ h => h) rfl (Held.y_move rfl rfl) c0_8 ?_
        simp only [Act.put, List.setIfInBounds_toArray, List.set_cons_zero, List.set_cons_succ]
        refine Held.one 28 (by kernel_rfl) ?_
        refine Held.op_build 28 (some 53) 22 24 1 (.slice none 0 0) 24 [.slice AK n ck] rfl rfl rfl rfl Tryd.underlying22 info_bytes (by simp [Act.eval]) (by simp [Value.cells]) (by simp [Value.oneCell']) rfl (by omega) (by omega) ?_
        intro p28 w9 v28 b9
        have c0_9 := c0_8.trans (b9.mono c0_8.size)
        have c2_9 := c2_8.trans (b9.mono c2_8.size)
        have c3_9 := c3_8.trans (b9.mono c3_8.size)
        have c7_9 := c7_8.trans (b9.mono c7_8.size)
        have c9_9 := Below.refl w9.heap.size w9
        refine ⟨c0_9, ?_⟩
        simp only [Act.put, List.setIfInBounds_toArray, List.set_cons_zero, List.set_cons_succ]
        refine Held.one 29 (by kernel_rfl) ?_
        refine Held.op_call 29 (some 54) 16 #[.slice A m c, .slice (some ⟨p28, 0, none⟩) 1 1] rfl rfl rfl rfl (enters_of Tryd.func16 (by kernel_rfl) rfl) (by simp [Act.eval])
          (tag_any _ _ _ _ _ _ _ _ _ _ _ _ (hb.below c0_9) hc2 hc2m (by omega) (v28.below c9_9) ((T28.below c0_9).more c0_9.size) c0_9.size (c9_9.size) (by omega) (by rw [HX28.out, hk.1]; omega) (hT.1.below c0_9 hT.1.lt) (hT.2.below c0_9 hT.2.lt)) ?_
        rw [HX28.out]
        rintro e w10 ⟨rfl, b10⟩
        have c0_10 := c0_9.trans (b10.mono c0_9.size)
        have c2_10 := c2_9.trans (b10.mono c2_9.size)
        have c3_10 := c3_9.trans (b10.mono c3_9.size)
        have c7_10 := c7_9.trans (b10.mono c7_9.size)
        have c9_10 := b10
        refine ⟨_, rfl, c0_10, ?_⟩
        simp only [Act.put, List.setIfInBounds_toArray, List.set_cons_zero, List.set_cons_succ]
        refine Held.one 32 (by kernel_rfl) ?_
        refine Held.op_call 32 (some 57) 17 #[.slice A m c, .slice AK n ck] rfl rfl rfl rfl (enters_of Tryd.func17 (by kernel_rfl) rfl) (by simp [Act.eval])
          (rtag_any _ _ _ _ _ _ _ _ _ _ _ (hb.below c0_10) c0_10.size (by omega) (hk.below c0_10) c0_10.size (by omega)) ?_
        rintro e w11 ⟨rfl, b11⟩
        have c0_11 := c0_10.trans (b11.mono c0_10.size)
        have c2_11 := c2_10.trans (b11.mono c2_10.size)
        have c3_11 := c3_10.trans (b11.mono c3_10.size)
        have c7_11 := c7_10.trans (b11.mono c7_10.size)
        have c9_11 := c9_10.trans (b11.mono c9_10.size)
        refine ⟨_, rfl, c0_11, ?_⟩
        simp only [Act.put, List.setIfInBounds_toArray, List.set_cons_zero, List.set_cons_succ]
        refine Held.take (v := .bool true) 33 (some 58) rfl rfl (by kernel_rfl) (by kernel_rfl) (by kernel_rfl) (fun _ _ _ h => h) rfl (Held.y_eql rfl rfl rfl (by kernel_rfl) Tryd.underlying26 Tryd.underlying5 (by kernel_rfl) (tag_length _ _)) c0_11 ?_
        simp only [Act.put, List.setIfInBounds_toArray, List.set_cons_zero, List.set_cons_succ]
        refine Held.take (v := .bool true) 34 (some 59) rfl rfl (by kernel_rfl) (by kernel_rfl) (by kernel_rfl) (fun _ _ _ h => h) rfl (Held.y_pick rfl rfl rfl) c0_11 ?_
        simp only [Act.put, List.setIfInBounds_toArray, List.set_cons_zero, List.set_cons_succ]
        refine Held.take (v := .bool true) 35 (some 6) rfl rfl (by kernel_rfl) (by kernel_rfl) (by kernel_rfl) (fun _ _ _ h => h) rfl (Held.y_assign rfl rfl) c0_11 ?_
        simp only [Act.put, List.setIfInBounds_toArray, List.set_cons_zero, List.set_cons_succ]
        refine wpAnyH_done (by kernel_rfl) ?_ _
        go_wp2_with fail
        go_ret
        exact ⟨rfl, c0_11⟩
      · refine Held.op_build 21 (some 46) 22 24 2 (.slice none 0 0) 24 [(.slice none 0 0), (.slice none 0 0)] rfl rfl rfl rfl Tryd.underlying22 info_bytes (by simp [Act.eval]) (by simp [Value.cells]) (by simp [Value.oneCell']) rfl (by omega) (by omega) ?_
        intro p21 w6 v21 b6
        have c0_6 := c0_5.trans (b6.mono c0_5.size)
        have c2_6 := c2_5.trans (b6.mono c2_5.size)
        have c3_6 := c3_5.trans (b6.mono c3_5.size)
        have c6_6 := Below.refl w6.heap.size w6
        refine ⟨c0_6, ?_⟩
        simp only [Act.put, List.setIfInBounds_toArray, List.set_cons_zero, List.set_cons_succ]
        refine Held.one 19 (by kernel_rfl) ?_
        refine Held.op_call 19 (some 44) 16 #[.slice AK n ck, .slice none 0 0] rfl rfl rfl rfl (enters_of Tryd.func16 (by kernel_rfl) rfl) (by simp [Act.eval])
          (tag_any _ _ _ _ _ _ _ _ _ _ _ _ (hk.below c0_6) hc1 hc1m (by omega) (Vals.nil _ w.heap.size _) (Texts.nil _ w.heap.size) c0_6.size (c0_6.size) (by omega) (by simp) (hT.1.below c0_6 hT.1.lt) (hT.2.below c0_6 hT.2.lt)) ?_
        rw [HX19.out]
        rintro e w7 ⟨rfl, b7⟩
        have c0_7 := c0_6.trans (b7.mono c0_6.size)
        have c2_7 := c2_6.trans (b7.mono c2_6.size)
        have c3_7 := c3_6.trans (b7.mono c3_6.size)
        have c6_7 := b7
        refine ⟨_, rfl, c0_7, ?_⟩
        simp only [Act.put, List.setIfInBounds_toArray, List.set_cons_zero, List.set_cons_succ]
        refine Held.one 22 (by kernel_rfl) ?_
        refine Held.op_call 22 (some 47) 16 #[.slice AK n ck, .slice (some ⟨p21, 0, none⟩) 2 2] rfl rfl rfl rfl (enters_of Tryd.func16 (by kernel_rfl) rfl) (by simp [Act.eval])
          (tag_any _ _ _ _ _ _ _ _ _ _ _ _ (hk.below c0_7) hc1 hc1m (by omega) (v21.below c6_7) ((T21.below c0_7).more c0_6.size) c0_7.size (c6_7.size) (by omega) (by simp) (hT.1.below c0_7 hT.1.lt) (hT.2.below c0_7 hT.2.lt)) ?_
        rw [HX21.out]
        rintro e w8 ⟨rfl, b8⟩
        have c0_8 := c0_7.trans (b8.mono c0_7.size)
        have c2_8 := c2_7.trans (b8.mono c2_7.size)
        have c3_8 := c3_7.trans (b8.mono c3_7.size)
        have c6_8 := c6_7.trans (b8.mono c6_7.size)
        refine ⟨_, rfl, c0_8, ?_⟩
        simp only [Act.put, List.setIfInBounds_toArray, List.set_cons_zero, List.set_cons_succ]
        refine Held.take (v := .bool true) 23 (some 48) rfl rfl (by kernel_rfl) (by kernel_rfl) (by kernel_rfl) (fun _ _ _ h => h) rfl (Held.y_eql rfl rfl rfl (by kernel_rfl) Tryd.underlying26 Tryd.underlying5 (by kernel_rfl) (tag_length _ _)) c0_8 ?_
        simp only [Act.put, List.setIfInBounds_toArray, List.set_cons_zero, List.set_cons_succ]
        refine Held.take (v := .bool true) 24 (some 49) rfl rfl (by kernel_rfl) (by kernel_rfl) (by kernel_rfl) (fun _ _ _ h => h) rfl (Held.y_pick rfl rfl rfl) c0_8 ?_
        simp only [Act.put, List.setIfInBounds_toArray, List.set_cons_zero, List.set_cons_succ]
        refine Held.take (v := .bool true) 25 (some 50) rfl rfl (by kernel_rfl) (by kernel_rfl) (by kernel_rfl) (fun _ _ _ h => h) rfl (Held.y_move rfl rfl) c0_8 ?_
        simp only [Act.put, List.setIfInBounds_toArray, List.set_cons_zero, List.set_cons_succ]
        refine Held.take (v := .slice A m c) 26 (some 51) rfl rfl (by kernel_rfl) (by kernel_rfl) (by kernel_rfl) (fun _ _ _ h => h) rfl (Held.y_move rfl rfl) c0_8 ?_
        simp only [Act.put, List.setIfInBounds_toArray, List.set_cons_zero, List.set_cons_succ]
        refine Held.take (v := .slice AK n ck) 27 (some 52) rfl rfl (by kernel_rfl) (by kernel_rfl) (by kernel_rfl) (fun _ _ _ h => h) rfl (Held.y_move rfl rfl) c0_8 ?_
        simp only [Act.put, List.setIfInBounds_toArray, List.set_cons_zero, List.set_cons_succ]
        refine Held.take (v := .slice A m c) 30 (some 55) rfl rfl (by kernel_rfl) (by kernel_rfl) (by kernel_rfl) (fun _ _ _ h => h) rfl (Held.y_move rfl rfl) c0_8 ?_
        simp only [Act.put, List.setIfInBounds_toArray, List.set_cons_zero, List.set_cons_succ]
        refine Held.take (v := .slice AK n ck) 31 (some 56) rfl rfl (by kernel_rfl) (by kernel_rfl) (by kernel_rfl) (fun _ _ _ h => h) rfl (Held.y_move rfl rfl) c0_8 ?_
        simp only [Act.put, List.setIfInBounds_toArray, List.set_cons_zero, List.set_cons_succ]
        refine Held.one 28 (by kernel_rfl) ?_
        refine Held.op_build 28 (some 53) 22 24 1 (.slice none 0 0) 24 [.slice AK n ck] rfl rfl rfl rfl Tryd.underlying22 info_bytes (by simp [Act.eval]) (by simp [Value.cells]) (by simp [Value.oneCell']) rfl (by omega) (by omega) ?_
        intro p28 w9 v28 b9
        have c0_9 := c0_8.trans (b9.mono c0_8.size)
        have c2_9 := c2_8.trans (b9.mono c2_8.size)
        have c3_9 := c3_8.trans (b9.mono c3_8.size)
        have c6_9 := c6_8.trans (b9.mono c6_8.size)
        have c9_9 := Below.refl w9.heap.size w9
        refine ⟨c0_9, ?_⟩
        simp only [Act.put, List.setIfInBounds_toArray, List.set_cons_zero, List.set_cons_succ]
        refine Held.one 29 (by kernel_rfl) ?_
        refine Held.op_call 29 (some 54) 16 #[.slice A m c, .slice (some ⟨p28, 0, none⟩) 1 1] rfl rfl rfl rfl (enters_of Tryd.func16 (by kernel_rfl) rfl) (by simp [Act.eval])
          (tag_any _ _ _ _ _ _ _ _ _ _ _ _ (hb.below c0_9) hc2 hc2m (by omega) (v28.below c9_9) ((T28.below c0_9).more c0_9.size) c0_9.size (c9_9.size) (by omega) (by rw [HX28.out, hk.1]; omega) (hT.1.below c0_9 hT.1.lt) (hT.2.below c0_9 hT.2.lt)) ?_
        rw [HX28.out]
        rintro e w10 ⟨rfl, b10⟩
        have c0_10 := c0_9.trans (b10.mono c0_9.size)
        have c2_10 := c2_9.trans (b10.mono c2_9.size)
        have c3_10 := c3_9.trans (b10.mono c3_9.size)
        have c6_10 := c6_9.trans (b10.mono c6_9.size)
        have c9_10 := b10
        refine ⟨_, rfl, c0_10, ?_⟩
        simp only [Act.put, List.setIfInBounds_toArray, List.set_cons_zero, List.set_cons_succ]
        refine Held.one 32 (by kernel_rfl) ?_
        refine Held.op_call 32 (some 57) 17 #[.slice A m c, .slice AK n ck] rfl rfl rfl rfl (enters_of Tryd.func17 (by kernel_rfl) rfl) (by simp [Act.eval])
          (rtag_any _ _ _ _ _ _ _ _ _ _ _ (hb.below c0_10) c0_10.size (by omega) (hk.below c0_10) c0_10.size (by omega)) ?_
        rintro e w11 ⟨rfl, b11⟩
        have c0_11 := c0_10.trans (b11.mono c0_10.size)
        have c2_11 := c2_10.trans (b11.mono c2_10.size)
        have c3_11 := c3_10.trans (b11.mono c3_10.size)
        have c6_11 := c6_10.trans (b11.mono c6_10.size)
        have c9_11 := c9_10.trans (b11.mono c9_10.size)
        refine ⟨_, rfl, c0_11, ?_⟩
        simp only [Act.put, List.setIfInBounds_toArray, List.set_cons_zero, List.set_cons_succ]
        refine Held.take (v := .bool true) 33 (some 58) rfl rfl (by kernel_rfl) (by kernel_rfl) (by kernel_rfl) (fun _ _ _ h => h) rfl (Held.y_eql rfl rfl rfl (by kernel_rfl) Tryd.underlying26 Tryd.underlying5 (by kernel_rfl) (tag_length _ _)) c0_11 ?_
        simp only [Act.put, List.setIfInBounds_toArray, List.set_cons_zero, List.set_cons_succ]
        refine Held.take (v := .bool true) 34 (some 59) rfl rfl (by kernel_rfl) (by kernel_rfl) (by kernel_rfl) (fun _ _ _ h => h) rfl (Held.y_pick rfl rfl rfl) c0_11 ?_
        simp only [Act.put, List.setIfInBounds_toArray, List.set_cons_zero, List.set_cons_succ]
        refine Held.take (v := .bool true) 35 (some 6) rfl rfl (by kernel_rfl) (by kernel_rfl) (by kernel_rfl) (fun _ _ _ h => h) rfl (Held.y_assign rfl rfl) c0_11 ?_
        simp only [Act.put, List.setIfInBounds_toArray, List.set_cons_zero, List.set_cons_succ]
        refine wpAnyH_done (by kernel_rfl) ?_ _
        go_wp2_with fail
        go_ret
        exact ⟨rfl, c0_11⟩
  · refine Held.op_build 13 (some 38) 22 24 1 (.slice none 0 0) 24 [.slice A m c] rfl rfl rfl rfl Tryd.underlying22 info_bytes (by simp [Act.eval]) (by simp [Value.cells]) (by simp [Value.oneCell']) rfl (by omega) (by omega) ?_
    intro p13 w2 v13 b2
    have c0_2 := c0_1.trans (b2.mono c0_1.size)
    have c2_2 := Below.refl w2.heap.size w2
    refine ⟨c0_2, ?_⟩
    simp only [Act.put, List.setIfInBounds_toArray, List.set_cons_zero, List.set_cons_succ]
    refine Held.one 9 (by kernel_rfl) ?_
    refine Held.op_build 9 (some 34) 22 24 2 (.slice none 0 0) 24 [.slice A q c, .slice A2 (m - q) (c - q)] rfl rfl rfl rfl Tryd.underlying22 info_bytes (by simp [Act.eval]) (by simp [Value.cells]) (by simp [Value.oneCell']) rfl (by omega) (by omega) ?_
    intro p9 w3 v9 b3
    have c0_3 := c0_2.trans (b3.mono c0_2.size)
    have c2_3 := b3
    have c3_3 := Below.refl w3.heap.size w3
    refine ⟨c0_3, ?_⟩
    simp only [Act.put, List.setIfInBounds_toArray, List.set_cons_zero, List.set_cons_succ]
    refine Held.one 10 (by kernel_rfl) ?_
    refine Held.op_call 10 (some 35) 16 #[.slice AK n ck, .slice (some ⟨p9, 0, none⟩) 2 2] rfl rfl rfl rfl (enters_of Tryd.func16 (by kernel_rfl) rfl) (by simp [Act.eval])
      (tag_any _ _ _ _ _ _ _ _ _ _ _ _ (hk.below c0_3) hc1 hc1m (by omega) (v9.below c3_3) ((T9.below c0_3).more c0_3.size) c0_3.size (c3_3.size) (by omega) (by rw [HX9.out, hb.1]; omega) (hT.1.below c0_3 hT.1.lt) (hT.2.below c0_3 hT.2.lt)) ?_
    rw [HX9.out]
    rintro e w4 ⟨rfl, b4⟩
    have c0_4 := c0_3.trans (b4.mono c0_3.size)
    have c2_4 := c2_3.trans (b4.mono c2_3.size)
    have c3_4 := b4
    refine ⟨_, rfl, c0_4, ?_⟩
    simp only [Act.put, List.setIfInBounds_toArray, List.set_cons_zero, List.set_cons_succ]
    refine Held.one 14 (by kernel_rfl) ?_
    refine Held.op_call 14 (some 39) 16 #[.slice AK n ck, .slice (some ⟨p13, 0, none⟩) 1 1] rfl rfl rfl rfl (enters_of Tryd.func16 (by kernel_rfl) rfl) (by simp [Act.eval])
      (tag_any _ _ _ _ _ _ _ _ _ _ _ _ (hk.below c0_4) hc1 hc1m (by omega) (v13.below c2_4) ((T13.below c0_4).more c0_2.size) c0_4.size (c2_4.size) (by omega) (by rw [HX13.out, hb.1]; omega) (hT.1.below c0_4 hT.1.lt) (hT.2.below c0_4 hT.2.lt)) ?_
    rw [HX13.out]
    rintro e w5 ⟨rfl, b5⟩
    have c0_5 := c0_4.trans (b5.mono c0_4.size)
    have c2_5 := c2_4.trans (b5.mono c2_4.size)
    have c3_5 := c3_4.trans (b5.mono c3_4.size)
    refine ⟨_, rfl, c0_5, ?_⟩
    simp only [Act.put, List.setIfInBounds_toArray, List.set_cons_zero, List.set_cons_succ]
    refine Held.take (v := .bool true) 15 (some 40) rfl rfl (by kernel_rfl) (by kernel_rfl) (by kernel_rfl) (fun _ _ _ h => h) rfl (Held.y_eql rfl rfl rfl (by kernel_rfl) Tryd.underlying26 Tryd.underlying5 (by kernel_rfl) (tag_length _ _)) c0_5 ?_
    simp only [Act.put, List.setIfInBounds_toArray, List.set_cons_zero, List.set_cons_succ]
    refine Held.take (v := .bool true) 16 (some 41) rfl rfl (by kernel_rfl) (by kernel_rfl) (by kernel_rfl) (fun _ _ _ h => h) rfl (Held.y_pick rfl rfl rfl) c0_5 ?_
    simp only [Act.put, List.setIfInBounds_toArray, List.set_cons_zero, List.set_cons_succ]
    refine Held.take (v := .bool true) 17 (some 42) rfl rfl (by kernel_rfl) (by kernel_rfl) (by kernel_rfl) (fun _ _ _ h => h) rfl (Held.y_move rfl rfl) c0_5 ?_
    simp only [Act.put, List.setIfInBounds_toArray, List.set_cons_zero, List.set_cons_succ]
    refine Held.take (v := .slice AK n ck) 18 (some 43) rfl rfl (by kernel_rfl) (by kernel_rfl) (by kernel_rfl) (fun _ _ _ h => h) rfl (Held.y_move rfl rfl) c0_5 ?_
    simp only [Act.put, List.setIfInBounds_toArray, List.set_cons_zero, List.set_cons_succ]
    refine Held.take (v := .slice AK n ck) 20 (some 45) rfl rfl (by kernel_rfl) (by kernel_rfl) (by kernel_rfl) (fun _ _ _ h => h) rfl (Held.y_move rfl rfl) c0_5 ?_
    simp only [Act.put, List.setIfInBounds_toArray, List.set_cons_zero, List.set_cons_succ]
    refine Held.two 19 21 (by kernel_rfl) ?_ ?_
    · refine Held.op_call 19 (some 44) 16 #[.slice AK n ck, .slice none 0 0] rfl rfl rfl rfl (enters_of Tryd.func16 (by kernel_rfl) rfl) (by simp [Act.eval])
        (tag_any _ _ _ _ _ _ _ _ _ _ _ _ (hk.below c0_5) hc1 hc1m (by omega) (Vals.nil _ w.heap.size _) (Texts.nil _ w.heap.size) c0_5.size (c0_5.size) (by omega) (by simp) (hT.1.below c0_5 hT.1.lt) (hT.2.below c0_5 hT.2.lt)) ?_
      rw [HX19.out]
      rintro e w6 ⟨rfl, b6⟩
      have c0_6 := c0_5.trans (b6.mono c0_5.size)
      have c2_6 := c2_5.trans (b6.mono c2_5.size)
      have c3_6 := c3_5.trans (b6.mono c3_5.size)
      refine ⟨_, rfl, c0_6, ?_⟩
      simp only [Act.put, List.setIfInBounds_toArray, List.set_cons_zero, List.set_cons_succ]
      refine Held.one 21 (by kernel_rfl) ?_
      refine Held.op_build 21 (some 46) 22 24 2 (.slice none 0 0) 24 [(.slice none 0 0), (.slice none 0 0)] rfl rfl rfl rfl Tryd.underlying22 info_bytes (by simp [Act.eval]) (by simp [Value.cells]) (by simp [Value.oneCell']) rfl (by omega) (by omega) ?_
      intro p21 w7 v21 b7
      have c0_7 := c0_6.trans (b7.mono c0_6.size)
      have c2_7 := c2_6.trans (b7.mono c2_6.size)
      have c3_7 := c3_6.trans (b7.mono c3_6.size)
      have c7_7 := Below.refl w7.heap.size w7
      refine ⟨c0_7, ?_⟩
      simp only [Act.put, List.setIfInBounds_toArray, List.set_cons_zero, List.set_cons_succ]
      refine Held.one 22 (by kernel_rfl) ?_
      refine Held.op_call 22 (some 47) 16 #[.slice AK n ck, .slice (some ⟨p21, 0, none⟩) 2 2] rfl rfl rfl rfl (enters_of Tryd.func16 (by kernel_rfl) rfl) (by simp [Act.eval])
        (tag_any _ _ _ _ _ _ _ _ _ _ _ _ (hk.below c0_7) hc1 hc1m (by omega) (v21.below c7_7) ((T21.below c0_7).more c0_7.size) c0_7.size (c7_7.size) (by omega) (by simp) (hT.1.below c0_7 hT.1.lt) (hT.2.below c0_7 hT.2.lt)) ?_
      rw [HX21.out]
      rintro e w8 ⟨rfl, b8⟩
      have c0_8 := c0_7.trans (b8.mono c0_7.size)
      have c2_8 := c2_7.trans (b8.mono c2_7.size)
      have c3_8 := c3_7.trans (b8.mono c3_7.size)
      have c7_8 := b8
      refine ⟨_, rfl, c0_8, ?_⟩
      simp only [Act.put, List.setIfInBounds_toArray, List.set_cons_zero, List.set_cons_succ]
      refine Held.take (v := .bool true) 23 (some 48) rfl rfl (by kernel_rfl) (by kernel_rfl) (by kernel_rfl) (fun _ _ _ h => h) rfl (Held.y_eql rfl rfl rfl (by kernel_rfl) Tryd.underlying26 Tryd.underlying5 (by kernel_rfl) (tag_length _ _)) c0_8 ?_
      simp only [Act.put, List.setIfInBounds_toArray, List.set_cons_zero, List.set_cons_succ]
      refine Held.take (v := .bool true) 24 (some 49) rfl rfl (by kernel_rfl) (by kernel_rfl) (by kernel_rfl) (fun _ _ _ h => h) rfl (Held.y_pick rfl rfl rfl) c0_8 ?_
      simp only [Act.put, List.setIfInBounds_toArray, List.set_cons_zero, List.set_cons_succ]
      refine Held.take (v := .bool true) 25 (some 50) rfl rfl (by kernel_rfl) (by kernel_rfl) (by kernel_rfl) (fun _ _ _ h => h) rfl (Held.y_move rfl rfl) c0_8 ?_
      simp only [Act.put, List.setIfInBounds_toArray, List.set_cons_zero, List.set_cons_succ]
      refine Held.take (v := .slice A m c) 26 (some 51) rfl rfl (by kernel_rfl) (by kernel_rfl) (by kernel_rfl) (fun _ _ _ h => h) rfl (Held.y_move rfl rfl) c0_8 ?_
      simp only [Act.put, List.setIfInBounds_toArray, List.set_cons_zero, List.set_cons_succ]
      refine Held.take (v := .slice AK n ck) 27 (some 52) rfl rfl (by kernel_rfl) (by kernel_rfl) (by kernel_rfl) (fun _ _ _ h => h) rfl (Held.y_move rfl rfl) c0_8 ?_
      simp only [Act.put, List.setIfInBounds_toArray, List.set_cons_zero, List.set_cons_succ]
      refine Held.take (v := .slice A m c) 30 (some 55) rfl rfl (by kernel_rfl) (by kernel_rfl) (by kernel_rfl) (fun _ _ _ h => h) rfl (Held.y_move rfl rfl) c0_8 ?_
      simp only [Act.put, List.setIfInBounds_toArray, List.set_cons_zero, List.set_cons_succ]
      refine Held.take (v := .slice AK n ck) 31 (some 56) rfl rfl (by kernel_rfl) (by kernel_rfl) (by kernel_rfl) (fun _ _ _ h => h) rfl (Held.y_move rfl rfl) c0_8 ?_
      simp only [Act.put, List.setIfInBounds_toArray, List.set_cons_zero, List.set_cons_succ]
      refine Held.one 28 (by kernel_rfl) ?_
      refine Held.op_build 28 (some 53) 22 24 1 (.slice none 0 0) 24 [.slice AK n ck] rfl rfl rfl rfl Tryd.underlying22 info_bytes (by simp [Act.eval]) (by simp [Value.cells]) (by simp [Value.oneCell']) rfl (by omega) (by omega) ?_
      intro p28 w9 v28 b9
      have c0_9 := c0_8.trans (b9.mono c0_8.size)
      have c2_9 := c2_8.trans (b9.mono c2_8.size)
      have c3_9 := c3_8.trans (b9.mono c3_8.size)
      have c7_9 := c7_8.trans (b9.mono c7_8.size)
      have c9_9 := Below.refl w9.heap.size w9
      refine ⟨c0_9, ?_⟩
      simp only [Act.put, List.setIfInBounds_toArray, List.set_cons_zero, List.set_cons_succ]
      refine Held.one 29 (by kernel_rfl) ?_
      refine Held.op_call 29 (some 54) 16 #[.slice A m c, .slice (some ⟨p28, 0, none⟩) 1 1] rfl rfl rfl rfl (enters_of Tryd.func16 (by kernel_rfl) rfl) (by simp [Act.eval])
        (tag_any _ _ _ _ _ _ _ _ _ _ _ _ (hb.below c0_9) hc2 hc2m (by omega) (v28.below c9_9) ((T28.below c0_9).more c0_9.size) c0_9.size (c9_9.size) (by omega) (by rw [HX28.out, hk.1]; omega) (hT.1.below c0_9 hT.1.lt) (hT.2.below c0_9 hT.2.lt)) ?_
      rw [HX28.out]
      rintro e w10 ⟨rfl, b10⟩
      have c0_10 := c0_9.trans (b10.mono c0_9.size)
      have c2_10 := c2_9.trans (b10.mono c2_9.size)
      have c3_10 := c3_9.trans (b10.mono c3_9.size)
      have c7_10 := c7_9.trans (b10.mono c7_9.size)
      have c9_10 := b10
      refine ⟨_, rfl, c0_10, ?_⟩
      simp only [Act.put, List.setIfInBounds_toArray, List.set_cons_zero, List.set_cons_succ]
      refine Held.one 32 (by kernel_rfl) ?_
      refine Held.op_call 32 (some 57) 17 #[.slice A m c, .slice AK n ck] rfl rfl rfl rfl (enters_of Tryd.func17 (by kernel_rfl) rfl) (by simp [Act.eval])
        (rtag_any _ _ _ _ _ _ _ _ _ _ _ (hb.below c0_10) c0_10.size (by omega) (hk.below c0_10) c0_10.size (by omega)) ?_
      rintro e w11 ⟨rfl, b11⟩
      have c0_11 := c0_10.trans (b11.mono c0_10.size)
      have c2_11 := c2_10.trans (b11.mono c2_10.size)
      have c3_11 := c3_10.trans (b11.mono c3_10.size)
      have c7_11 := c7_10.trans (b11.mono c7_10.size)
      have c9_11 := c9_10.trans (b11.mono c9_10.size)
      refine ⟨_, rfl, c0_11, ?_⟩
      simp only [Act.put, List.setIfInBounds_toArray, List.set_cons_zero, List.set_cons_succ]
      refine Held.take (v := .bool true) 33 (some 58) rfl rfl (by kernel_rfl) (by kernel_rfl) (by kernel_rfl) (fun _ _ _ h => h) rfl (Held.y_eql rfl rfl rfl (by kernel_rfl) Tryd.underlying26 Tryd.underlying5 (by kernel_rfl) (tag_length _ _)) c0_11 ?_
      simp only [Act.put, List.setIfInBounds_toArray, List.set_cons_zero, List.set_cons_succ]
      refine Held.take (v := .bool true) 34 (some 59) rfl rfl (by kernel_rfl) (by kernel_rfl) (by kernel_rfl) (fun _ _ _ h => h) rfl (Held.y_pick rfl rfl rfl) c0_11 ?_
      simp only [Act.put, List.setIfInBounds_toArray, List.set_cons_zero, List.set_cons_succ]
      refine Held.take (v := .bool true) 35 (some 6) rfl rfl (by kernel_rfl) (by kernel_rfl) (by kernel_rfl) (fun _ _ _ h => h) rfl (Held.y_assign rfl rfl) c0_11 ?_
      simp only [Act.put, List.setIfInBounds_toArray, List.set_cons_zero, List.set_cons_succ]
      refine wpAnyH_done (by kernel_rfl) ?_ _
      go_wp2_with fail
      go_ret
      exact ⟨rfl, c0_11⟩
    · refine Held.op_build 21 (some 46) 22 24 2 (.slice none 0 0) 24 [(.slice none 0 0), (.slice none 0 0)] rfl rfl rfl rfl Tryd.underlying22 info_bytes (by simp [Act.eval]) (by simp [Value.cells]) (by simp [Value.oneCell']) rfl (by omega) (by omega) ?_
      intro p21 w6 v21 b6
      have c0_6 := c0_5.trans (b6.mono c0_5.size)
      have c2_6 := c2_5.trans (b6.mono c2_5.size)
      have c3_6 := c3_5.trans (b6.mono c3_5.size)
      have c6_6 := Below.refl w6.heap.size w6
      refine ⟨c0_6, ?_⟩
      simp only [Act.put, List.setIfInBounds_toArray, List.set_cons_zero, List.set_cons_succ]
      refine Held.one 19 (by kernel_rfl) ?_
      refine Held.op_call 19 (some 44) 16 #[.slice AK n ck, .slice none 0 0] rfl rfl rfl rfl (enters_of Tryd.func16 (by kernel_rfl) rfl) (by simp [Act.eval])
        (tag_any _ _ _ _ _ _ _ _ _ _ _ _ (hk.below c0_6) hc1 hc1m (by omega) (Vals.nil _ w.heap.size _) (Texts.nil _ w.heap.size) c0_6.size (c0_6.size) (by omega) (by simp) (hT.1.below c0_6 hT.1.lt) (hT.2.below c0_6 hT.2.lt)) ?_
      rw [HX19.out]
      rintro e w7 ⟨rfl, b7⟩
      have c0_7 := c0_6.trans (b7.mono c0_6.size)
      have c2_7 := c2_6.trans (b7.mono c2_6.size)
      have c3_7 := c3_6.trans (b7.mono c3_6.size)
      have c6_7 := b7
      refine ⟨_, rfl, c0_7, ?_⟩
      simp only [Act.put, List.setIfInBounds_toArray, List.set_cons_zero, List.set_cons_succ]
      refine Held.one 22 (by kernel_rfl) ?_
      refine Held.op_call 22 (some 47) 16 #[.slice AK n ck, .slice (some ⟨p21, 0, none⟩) 2 2] rfl rfl rfl rfl (enters_of Tryd.func16 (by kernel_rfl) rfl) (by simp [Act.eval])
        (tag_any _ _ _ _ _ _ _ _ _ _ _ _ (hk.below c0_7) hc1 hc1m (by omega) (v21.below c6_7) ((T21.below c0_7).more c0_6.size) c0_7.size (c6_7.size) (by omega) (by simp) (hT.1.below c0_7 hT.1.lt) (hT.2.below c0_7 hT.2.lt)) ?_
      rw [HX21.out]
      rintro e w8 ⟨rfl, b8⟩
      have c0_8 := c0_7.trans (b8.mono c0_7.size)
      have c2_8 := c2_7.trans (b8.mono c2_7.size)
      have c3_8 := c3_7.trans (b8.mono c3_7.size)
      have c6_8 := c6_7.trans (b8.mono c6_7.size)
      refine ⟨_, rfl, c0_8, ?_⟩
      simp only [Act.put, List.setIfInBounds_toArray, List.set_cons_zero, List.set_cons_succ]
      refine Held.take (v := .bool true) 23 (some 48) rfl rfl (by kernel_rfl) (by kernel_rfl) (by kernel_rfl) (fun _ _ _ h => h) rfl (Held.y_eql rfl rfl rfl (by kernel_rfl) Tryd.underlying26 Tryd.underlying5 (by kernel_rfl) (tag_length _ _)) c0_8 ?_
      simp only [Act.put, List.setIfInBounds_toArray, List.set_cons_zero, List.set_cons_succ]
      refine Held.take (v := .bool true) 24 (some 49) rfl rfl (by kernel_rfl) (by kernel_rfl) (by kernel_rfl) (fun _ _ _ h => h) rfl (Held.y_pick rfl rfl rfl) c0_8 ?_
      simp only [Act.put, List.setIfInBounds_toArray, List.set_cons_zero, List.set_cons_succ]
      refine Held.take (v := .bool true) 25 (some 50) rfl rfl (by kernel_rfl) (by kernel_rfl) (by kernel_rfl) (fun _ _ _ h => h) rfl (Held.y_move rfl rfl) c0_8 ?_
      simp only [Act.put, List.setIfInBounds_toArray, List.set_cons_zero, List.set_cons_succ]
      refine Held.take (v := .slice A m c) 26 (some 51) rfl rfl (by kernel_rfl) (by kernel_rfl) (by kernel_rfl) (fun _ _ _ h => h) rfl (Held.y_move rfl rfl) c0_8 ?_
      simp only [Act.put, List.setIfInBounds_toArray, List.set_cons_zero, List.set_cons_succ]
      refine Held.take (v := .slice AK n ck) 27 (some 52) rfl rfl (by kernel_rfl) (by kernel_rfl) (by kernel_rfl) (fun _ _ _ h => h) rfl (Held.y_move rfl rfl) c0_8 ?_
      simp only [Act.put, List.setIfInBounds_toArray, List.set_cons_zero, List.set_cons_succ]
      refine Held.take (v := .slice A m c) 30 (some 55) rfl rfl (by kernel_rfl) (by kernel_rfl) (by kernel_rfl) (fun _ _ _ h => h) rfl (Held.y_move rfl rfl) c0_8 ?_
      simp only [Act.put, List.setIfInBounds_toArray, List.set_cons_zero, List.set_cons_succ]
      refine Held.take (v := .slice AK n ck) 31 (some 56) rfl rfl (by kernel_rfl) (by kernel_rfl) (by kernel_rfl) (fun _ _ _ h => h) rfl (Held.y_move rfl rfl) c0_8 ?_
      simp only [Act.put, List.setIfInBounds_toArray, List.set_cons_zero, List.set_cons_succ]
      refine Held.one 28 (by kernel_rfl) ?_
      refine Held.op_build 28 (some 53) 22 24 1 (.slice none 0 0) 24 [.slice AK n ck] rfl rfl rfl rfl Tryd.underlying22 info_bytes (by simp [Act.eval]) (by simp [Value.cells]) (by simp [Value.oneCell']) rfl (by omega) (by omega) ?_
      intro p28 w9 v28 b9
      have c0_9 := c0_8.trans (b9.mono c0_8.size)
      have c2_9 := c2_8.trans (b9.mono c2_8.size)
      have c3_9 := c3_8.trans (b9.mono c3_8.size)
      have c6_9 := c6_8.trans (b9.mono c6_8.size)
      have c9_9 := Below.refl w9.heap.size w9
      refine ⟨c0_9, ?_⟩
      simp only [Act.put, List.setIfInBounds_toArray, List.set_cons_zero, List.set_cons_succ]
      refine Held.one 29 (by kernel_rfl) ?_
      refine Held.op_call 29 (some 54) 16 #[.slice A m c, .slice (some ⟨p28, 0, none⟩) 1 1] rfl rfl rfl rfl (enters_of Tryd.func16 (by kernel_rfl) rfl) (by simp [Act.eval])
        (tag_any _ _ _ _ _ _ _ _ _ _ _ _ (hb.below c0_9) hc2 hc2m (by omega) (v28.below c9_9) ((T28.below c0_9).more c0_9.size) c0_9.size (c9_9.size) (by omega) (by rw [HX28.out, hk.1]; omega) (hT.1.below c0_9 hT.1.lt) (hT.2.below c0_9 hT.2.lt)) ?_
      rw [HX28.out]
      rintro e w10 ⟨rfl, b10⟩
      have c0_10 := c0_9.trans (b10.mono c0_9.size)
      have c2_10 := c2_9.trans (b10.mono c2_9.size)
      have c3_10 := c3_9.trans (b10.mono c3_9.size)
      have c6_10 := c6_9.trans (b10.mono c6_9.size)
      have c9_10 := b10
      refine ⟨_, rfl, c0_10, ?_⟩
      simp only [Act.put, List.setIfInBounds_toArray, List.set_cons_zero, List.set_cons_succ]
      refine Held.one 32 (by kernel_rfl) ?_
      refine Held.op_call 32 (some 57) 17 #[.slice A m c, .slice AK n ck] rfl rfl rfl rfl (enters_of Tryd.func17 (by kernel_rfl) rfl) (by simp [Act.eval])
        (rtag_any _ _ _ _ _ _ _ _ _ _ _ (hb.below c0_10) c0_10.size (by omega) (hk.below c0_10) c0_10.size (by omega)) ?_
      rintro e w11 ⟨rfl, b11⟩
      have c0_11 := c0_10.trans (b11.mono c0_10.size)
      have c2_11 := c2_10.trans (b11.mono c2_10.size)
      have c3_11 := c3_10.trans (b11.mono c3_10.size)
      have c6_11 := c6_10.trans (b11.mono c6_10.size)
      have c9_11 := c9_10.trans (b11.mono c9_10.size)
      refine ⟨_, rfl, c0_11, ?_⟩
      simp only [Act.put, List.setIfInBounds_toArray, List.set_cons_zero, List.set_cons_succ]
      refine Held.take (v := .bool true) 33 (some 58) rfl rfl (by kernel_rfl) (by kernel_rfl) (by kernel_rfl) (fun _ _ _ h => h) rfl (Held.y_eql rfl rfl rfl (by kernel_rfl) Tryd.underlying26 Tryd.underlying5 (by kernel_rfl) (tag_length _ _)) c0_11 ?_
      simp only [Act.put, List.setIfInBounds_toArray, List.set_cons_zero, List.set_cons_succ]
      refine Held.take (v := .bool true) 34 (some 59) rfl rfl (by kernel_rfl) (by kernel_rfl) (by kernel_rfl) (fun _ _ _ h => h) rfl (Held.y_pick rfl rfl rfl) c0_11 ?_
      simp only [Act.put, List.setIfInBounds_toArray, List.set_cons_zero, List.set_cons_succ]
      refine Held.take (v := .bool true) 35 (some 6) rfl rfl (by kernel_rfl) (by kernel_rfl) (by kernel_rfl) (fun _ _ _ h => h) rfl (Held.y_assign rfl rfl) c0_11 ?_
      simp only [Act.put, List.setIfInBounds_toArray, List.set_cons_zero, List.set_cons_succ]
      refine wpAnyH_done (by kernel_rfl) ?_ _
      go_wp2_with fail
      go_ret
      exact ⟨rfl, c0_11⟩

theorem walk (a0 : Option Addr) (len0 cap0 : Nat) (z0 : List Int) (a1 : Option Addr) (len1 cap1 : Nat) (z1 : List Int) (a2 : Int) (w : World) (w0 : IsRow .u8 w a0 len0 cap0 z0) (w1 : IsRow .u8 w a1 len1 cap1 z1) (w2 : (Lit.int .i64 a2).wf = true) (hL : laidMetH Tryd.prog laidList w) :
    Calls Tryd.prog 8 #[.slice a0 len0 cap0, .slice a1 len1 cap1, .int .i64 a2] w fun e w' => e = .returned (.bool true) ∧ Below w.heap.size w w' := by
  obtain ⟨h, hl, hm⟩ := ints_of_row w0
  obtain ⟨h', hl', hm'⟩ := ints_of_row w1
  exact start a0 a1 len0 cap0 len1 cap1 _ _ a2 w h hl hm h' hl' hm' (flat_of_row w1) (sha_of_laid hL)

set_option maxRecDepth 100000 in
theorem door_met (os : Os) (args : Array Value) : laidMetH Tryd.prog laidList ((World.doorLaid Tryd.prog 400 os).forCall (fun _ _ => 0) ⟨#[], args, []⟩).memory :=
  laidMetH_of_parts3 (fuel := 8) (laidMet_of_run' 8 (by kernel_rfl) (by kernel_rfl)) (by kernel_rfl) (by kernel_rfl)

set_option maxRecDepth 100000 in
theorem lifted (os : Os) (started : os.Started) (H : Type) (enc : TypeId × Value → H) :
    ReturnsInHanded {} Tryd.checked os 8 .any (fun w args => (Rows.macPartsSpec.pre enc Tryd.prog Tryd.f8 [] false w args ∧ laidMetH Tryd.prog laidList w) ∧ sizedMet enc Tryd.prog Tryd.f8 (OpenSpec.ofChange Rows.macPartsSpec) false w args)
      (Rows.macPartsSpec.post enc Tryd.prog Tryd.f8 false true false false) := by
  refine returnsInHanded_of_change_and (C := Tryd.checked) (X := fun w _ => laidMetH Tryd.prog laidList w) (fun _ _ _ hh h => h.of_heap hh) own started (by kernel_rfl) Tryd.func8
    (ChangeSpec.witness_shaped (enc := enc) (C := Tryd.checked) (os := os) (X := fun w _ => laidMetH Tryd.prog laidList w) false (World.doorLaid Tryd.prog 400 os) #[.slice none 0 0, .slice none 0 0, .int .i64 0] 8 rfl (World.shaped_of_RefB (by kernel_rfl) (by kernel_rfl)) (by kernel_rfl) (by kernel_rfl) (by kernel_rfl) (door_met os _)) ?_
  intro W base args ds gs before hval0 hW _ _ hL _
  have hval : ∀ (j : Nat) t v, Tryd.f8.params[j]? = some t → args[j]? = some v → Value.okWide Tryd.prog W .any base t v := hval0
  have hW' := hW
  obtain ⟨p, q, hA0, hV, rfl, hfz, hnd⟩ := hW
  have hA : DataW.TrodAll enc Tryd.prog W 0 (fun _ => true) true Tryd.f8.params.toList args.toList ds p := hA0
  rw [Tryd.params8] at hA hval
  obtain ⟨v0, vs0, d0, ds0, p0, q0, hargs, rfl, rfl, h0, r0⟩ := trodAll_cons hA
  obtain ⟨v1, vs1, d1, ds1, p1, q1, rfl, rfl, rfl, h1, r1⟩ := trodAll_cons r0
  obtain ⟨v2, vs2, d2, ds2, p2, q2, rfl, rfl, rfl, h2, r2⟩ := trodAll_cons r1
  obtain ⟨rfl, rfl, rfl⟩ := trodAll_nil r2
  obtain rfl : args = #[v0, v1, v2] := by cases args; simp_all
  obtain ⟨rfl, rfl⟩ := trodVars_none hV
  obtain ⟨a0, len0, cap0, rfl⟩ := okWide_slice Tryd.underlying24 (hval 0 24 v0 rfl rfl)
  have k0 := h0
  have lt0 : ∀ x ∈ p0, x.block < W.heap.size := by obtain ⟨m, hm⟩ := k0; exact DataW.trod_lt m _ _ _ hm
  obtain ⟨z0, w0⟩ : ∃ zs, IsRow .u8 W a0 len0 cap0 zs := by
    obtain ⟨fuel, hf⟩ := h0
    rcases open_ints Tryd.underlying24 Tryd.underlying5 (by kernel_rfl) hf with ⟨hcs, _⟩ | ⟨x, l, c, zs, hcs, _, hl, hm, hz, _, hcell, hwz⟩
    · simp [Value.cells] at hcs
      obtain ⟨rfl, rfl, rfl⟩ := hcs
      exact ⟨[], .inl ⟨rfl, rfl, rfl, rfl⟩⟩
    · simp [Value.cells] at hcs
      obtain ⟨rfl, rfl, rfl⟩ := hcs
      exact ⟨zs, .inr ⟨_, rfl, hl, hm, by simpa using hz, hcell, hwz⟩⟩
  obtain ⟨a1, len1, cap1, rfl⟩ := okWide_slice Tryd.underlying24 (hval 1 24 v1 rfl rfl)
  have k1 := h1
  have lt1 : ∀ x ∈ p1, x.block < W.heap.size := by obtain ⟨m, hm⟩ := k1; exact DataW.trod_lt m _ _ _ hm
  obtain ⟨z1, w1⟩ : ∃ zs, IsRow .u8 W a1 len1 cap1 zs := by
    obtain ⟨fuel, hf⟩ := h1
    rcases open_ints Tryd.underlying24 Tryd.underlying5 (by kernel_rfl) hf with ⟨hcs, _⟩ | ⟨x, l, c, zs, hcs, _, hl, hm, hz, _, hcell, hwz⟩
    · simp [Value.cells] at hcs
      obtain ⟨rfl, rfl, rfl⟩ := hcs
      exact ⟨[], .inl ⟨rfl, rfl, rfl, rfl⟩⟩
    · simp [Value.cells] at hcs
      obtain ⟨rfl, rfl, rfl⟩ := hcs
      exact ⟨zs, .inr ⟨_, rfl, hl, hm, by simpa using hz, hcell, hwz⟩⟩
  obtain ⟨a2, rfl, rfl, rfl, w2⟩ := open_int Tryd.underlying3 (hval 2 3 v2 rfl rfl) h2
  clear hA0 hval0
  refine (walk a0 len0 cap0 z0 a1 len1 cap1 z1 a2 W w0 w1 w2 hL).mono fun e W' ⟨he, bel⟩ => ?_
  subst he
  exact ⟨_, rfl, _, _, _, [], _, [], hW', trodAll_mk1 (shut_bool Tryd.underlying4 _), (trodAll_cons_mk (Below.trod laidOut (by kernel_rfl) (of_decide_eq_true (by kernel_rfl)) k0 bel lt0) (trodAll_cons_mk (Below.trod laidOut (by kernel_rfl) (of_decide_eq_true (by kernel_rfl)) k1 bel lt1) (trodAll_cons_mk (shut_int Tryd.underlying3 w2) trodAll_mk0))), rfl, bel.frame _, fun h => by cases h⟩

theorem over : Rows.macPartsRow.holds Tryd.pinned (OpenSpec.ofChange Rows.macPartsSpec) :=
  OpenClaim.holds_of_wide 8 Tryd.f8 rfl rfl rfl rfl rfl rfl rfl ⟨rfl, rfl, rfl, rfl, rfl⟩ rfl rfl rfl rfl rfl (by kernel_rfl) Tryd.func8 (by kernel_rfl)
    (of_decide_eq_true (by kernel_rfl)) (by unfold Func.isWrapper; first | (rw [if_pos (by decide +kernel)]; kernel_rfl) | (rw [if_neg (by decide +kernel)]; exact ⟨rfl, rfl⟩))
    (fun os started H enc _ => lifted os started H enc)

/-- the statement -/
theorem proved : Rows.MacPartsCardSaid :=
  Claim7.holds_tied_plain_at .later [] [.data, .data] true (true, "74715a686186f48c3dd40144d148d95e47866ac8009af2670855dcda67169850") false
    over (fun _ h => by cases h) (by kernel_rfl) (fun _ h => by cases h) macParts_row_tie rfl ⟨rfl, rfl⟩ (by kernel_rfl) rfl
    (fun f fn hf hfn => by
      obtain rfl : f = 8 := Option.some.inj ((show Tryd.prog.funcNamed "domino/dominolaw03.MacParts" = some 8 by kernel_rfl).symm.trans hf) |>.symm
      obtain rfl : fn = Tryd.f8 := (Option.some.inj (Tryd.func8.symm.trans hfn)).symm
      exact ⟨by kernel_rfl, fun j t ht => by
        rw [Tryd.params8] at ht
        have hm : t ∈ [24, 24, 3] := by simpa using Array.mem_of_getElem? ht
        have hall : ([24, 24, 3].all fun u => !Tryd.prog.wantsStandIn u) = true := by kernel_rfl
        exact (show Tryd.prog.wantsStandIn t = false by simpa using List.all_eq_true.1 hall t hm)⟩)
    (by kernel_rfl)
#print axioms proved
end Go.Proofs.YtaggpecikiknkaaDoor.macParts
