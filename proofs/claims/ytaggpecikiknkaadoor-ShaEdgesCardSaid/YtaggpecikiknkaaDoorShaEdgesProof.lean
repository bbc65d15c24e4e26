/-
  The law ShaEdges of package dominolaw02 returns true for every two numbers: the sum of a message of any length about whole blocks, in one part and in two, is the document's own. The tables of package sha hold what the program's text lays.
-/
import Derived.Test.YtaggpecikiknkaaDoorRows
import Derived.Test.YtaggpecikiknkaaDoorCards
import Derived.Test.YtaggpecikiknkaaDoorTie
import Derived.SevenTiedAt
import Derived.WalkKit
import Derived.ProofKit
import Derived.OpenShut
import Derived.ShutString
import Derived.ChangeOld
import Derived.Below
import Derived.LaidMore
import Derived.Stop.Joined
import Derived.Test.YtaggpecikiknkaaDoorAwake2
import Derived.Test.YtaggpecikiknkaaDoorLaid
import Derived.Test.YtaggpecikiknkaaDoorHeld
import Derived.Test.YtaggpecikiknkaaDoorShaR
import Derived.Test.YtaggpecikiknkaaDoorSumB
import Derived.Test.YtaggpecikiknkaaDoorCut
namespace Go.Proofs.YtaggpecikiknkaaDoor.shaEdges
open Go.ChangeShapes Go.WideShapes Go.ChangeAt Go.RowKit
open Go.ChangeMaps (open_string shut_string)
open Go.Shelf Go.Proofs.YtaggpecikiknkaaDoor.Mem Go.Proofs.YtaggpecikiknkaaDoor.Help Go.Proofs.YtaggpecikiknkaaDoor.Sum Go.Proofs.YtaggpecikiknkaaDoor.Sha
set_option linter.unusedVariables false

theorem own : ownKnob Tryd.prog.godebug = none := by kernel_rfl
theorem laidOut : laidOutB Tryd.prog = true := by kernel_rfl

/-- what a slice that came in leads to -/
def IsRow (k : IntKind) (w : World) (a : Option Addr) (len cap : Nat) (zs : List Int) : Prop :=
  (a = none ∧ len = 0 ∧ cap = 0 ∧ zs = []) ∨
  ∃ x, a = some x ∧ len ≤ cap ∧ cap ≤ maxLen ∧ zs.length = cap ∧ (∀ i, i < zs.length → w.cell? (x.add i) = some (.int k (zs.getD i 0))) ∧ ∀ n ∈ zs, (Lit.int k n).wf = true

def laidList : List (String × DataW Unit) := [("domino/sha.start", Rows.laid_domino_sha_start), ("domino/sha.words", Rows.laid_domino_sha_words)]

set_option maxRecDepth 100000 in
set_option maxHeartbeats 8000000 in
theorem start (N x : Int) (w : World) (hx : 0 ≤ x ∧ x ≤ 255) (hT : Tab w 0 Sum.H0 ∧ Tab w 1 Sum.K) :
    Calls Tryd.prog 4 #[.int .i64 N, .int .u8 x] w fun e w' => e = .returned (.bool true) ∧ Below w.heap.size w w' := by
  have hq : 0 ≤ IntKind.u64.wrap N := by rw [IntKind.wrap_u64]; omega
  obtain ⟨n, hn⟩ : ∃ n : Nat, wrap64 ((IntKind.u64.wrap N).tmod 200) = (n : Int) := ⟨(IntKind.u64.wrap N % 200).toNat, by rw [Int.tmod_eq_emod_of_nonneg hq]; unfold wrap64; omega⟩
  have hn1 : n < 200 := by rw [Int.tmod_eq_emod_of_nonneg hq] at hn; unfold wrap64 at hn; omega
  have hn0 : (0 : Int) ≤ (n : Int) := by omega
  have hn2 : (n : Int) < 200 := by omega
  have hx1 := hx.1
  have hx2 := hx.2
  clear hq hx
  have n1 := Row.new (zs := List.replicate n 0) (k := .u8) w 5 (fun z hz => by rw [List.eq_of_mem_replicate hz]; rfl)
  go_enter Tryd.func4, Tryd.ntmps4
  go_wp2_with (refine wpList_make_Row _ rfl _ _ 24 rfl 5 .u8 1 Tryd.underlying24 info_u8 .i64 .i64 _ _ n rfl rfl (by omega) (by omega) (by omega) (by omega) ?_; intro w1 hr1 hg1 hs1)
  go_loopw [15] (fun i wr => ∃ k : Nat, k ≤ n ∧ i = .int .i64 k ∧ w1.grownBy wr (some w.heap.size) ∧ ∃ zs : List Int, zs.length = n ∧ Row wr w.heap.size 5 .u8 zs) (fun i _ => n - (intOf i).toNat)
  case atStart => exact ⟨0, by omega, rfl, World.grownBy.refl _ _, _, by simp, hr1⟩
  case round =>
    obtain ⟨k, hk, rfl, hg, zs, hl, hr⟩ := hrel
    by_cases hlt : k < n
    · obtain ⟨old, hc⟩ : ∃ old, wr.cell? ⟨w.heap.size, k, none⟩ = some old := ⟨_, hr.cell (by omega)⟩
      have hf := hr.frozen k
      have hlt' : (k : Int) < (n : Int) := by omega
      have hk0 : (0 : Int) ≤ (k : Int) := by omega
      have hk7 : (k : Int) ≤ 199 := by omega
      have hkk : (k : Int) * (k : Int) ≤ 39601 := by have := Int.mul_le_mul hk7 hk7 hk0 (by omega); omega
      have hkk0 : (0 : Int) ≤ (k : Int) * (k : Int) := Int.mul_nonneg hk0 hk0
      obtain ⟨q, hq⟩ : ∃ q, (k : Int) * (k : Int) = q := ⟨_, rfl⟩
      rw [hq] at hkk hkk0
      go_wp2_with fail
      go_roundw
      case rel => exact ⟨k + 1, by omega, by go_num, hg.trans (grown_setCell _ _ _ _), zs.set k _, by simp [hl], hr.set _ (by simp [Lit.wf, IntKind.min, IntKind.max, IntKind.signed, IntKind.bits]; omega)⟩
      case measure => simp [intOf]; omega
    · have hkl : k = n := by omega
      subst hkl
      go_wp2_with fail
      have hbl : Below w.heap.size w wr := ((Below.refl _ w).grown hg1 (Nat.le_refl _) (by simp)).grown hg (by have := hg1.size; omega) (fun r e => by cases e; exact Nat.le_refl _)
      have hT1 := hT.1.below hbl hT.1.lt
      have hT2 := hT.2.below hbl hT.2.lt
      obtain ⟨h, hh⟩ : ∃ h, k / 2 = h := ⟨_, rfl⟩
      have hhk : h ≤ k := by omega
      have hqr : IntKind.i64.wrap ((k : Int).tdiv 2) = (h : Int) := by
        rw [Int.tdiv_eq_ediv_of_nonneg (by omega), IntKind.wrap_i64]; omega
      have hb := hr.ints (n := k) (by omega)
      rw [List.take_of_length_le (by omega)] at hb
      have hbs : Bs zs := fun z hz => wf_u8 (hb.2.1 z hz)
      have hfl : Flat (some ⟨w.heap.size, 0, none⟩) k := Flat.head _ _ _
      have e1 := fun W => run_front (P := Tryd.prog) (t := 24) (e := 5) (n := k) Tryd.underlying24 (by kernel_rfl) hfl (h := h) (by omega) W
      obtain ⟨A2, e2, hf2, hi2⟩ := run_back (P := Tryd.prog) (t := 24) (e := 5) Tryd.underlying24 (by kernel_rfl) hfl (Nat.le_refl k) hhk hb
      have hif := hb.front hhk
      have T3 := Texts.one hb (Nat.le_refl k) (show k ≤ maxLen by unfold maxLen; omega)
      have T18 := (Texts.one hif (show h ≤ k by omega) (show k ≤ maxLen by unfold maxLen; omega)).cons (Texts.one hi2 (Nat.le_refl _) (show k - h ≤ maxLen by unfold maxLen; omega))
      have HX3 := Lib.hid (show [zs].flatten = zs by simp)
      have HX18 := Lib.hid (show [zs.take h, zs.drop h].flatten = zs by simp)
      refine wp_region_held (S := fun W => Below wr.heap.size wr W) (by kernel_rfl) ?_
      change wpAnyH _ _ _ _ _ _ _ _ wr.drew
      have c0_0 := (Below.refl wr.heap.size wr).drew
      refine Held.one 0 (by kernel_rfl) ?_
      refine Held.op_call 0 (some 28) 9 #[] rfl rfl rfl rfl (enters_of Tryd.func9 (by kernel_rfl) rfl) (by simp [Act.eval])
        (awake2_any _ (hT1.below c0_0 hT1.lt) (hT2.below c0_0 hT2.lt)) ?_
      rintro e w1 ⟨rfl, b1⟩
      have c0_1 := c0_0.trans (b1.mono c0_0.size)
      refine ⟨_, rfl, c0_1, ?_⟩
      simp only [Act.put, List.setIfInBounds_toArray, List.set_cons_zero, List.set_cons_succ]
      refine Held.take (v := .bool true) 1 (some 29) rfl rfl (by kernel_rfl) (by kernel_rfl) (by kernel_rfl) (fun _ _ _ h => h) rfl (Held.y_move rfl rfl) c0_1 ?_
      simp only [Act.put, List.setIfInBounds_toArray, List.set_cons_zero, List.set_cons_succ]
      refine Held.take (v := .slice (some ⟨w.heap.size, 0, none⟩) k k) 2 (some 30) rfl rfl (by kernel_rfl) (by kernel_rfl) (by kernel_rfl) (fun _ _ _ h => h) rfl (Held.y_move rfl rfl) c0_1 ?_
      simp only [Act.put, List.setIfInBounds_toArray, List.set_cons_zero, List.set_cons_succ]
      refine Held.take (v := .slice (some ⟨w.heap.size, 0, none⟩) k k) 5 (some 33) rfl rfl (by kernel_rfl) (by kernel_rfl) (by kernel_rfl) (fun _ _ _ h => h) rfl (Held.y_move rfl rfl) c0_1 ?_
      simp only [Act.put, List.setIfInBounds_toArray, List.set_cons_zero, List.set_cons_succ]
      refine Held.one 3 (by kernel_rfl) ?_
      refine Held.op_build 3 (some 31) 22 24 1 (.slice none 0 0) 24 [.slice (some ⟨w.heap.size, 0, none⟩) k k] rfl rfl rfl rfl Tryd.underlying22 info_bytes (by simp [Act.eval]) (by simp [Value.cells]) (by simp [Value.oneCell']) rfl (by omega) (by omega) ?_
      intro p3 w2 v3 b2
      have c0_2 := c0_1.trans (b2.mono c0_1.size)
      have c2_2 := Below.refl w2.heap.size w2
      refine ⟨c0_2, ?_⟩
      simp only [Act.put, List.setIfInBounds_toArray, List.set_cons_zero, List.set_cons_succ]
      refine Held.one 4 (by kernel_rfl) ?_
      refine Held.op_call 4 (some 32) 11 #[.slice (some ⟨p3, 0, none⟩) 1 1] rfl rfl rfl rfl (enters_of Tryd.func11 (by kernel_rfl) rfl) (by simp [Act.eval])
        (sum_any _ _ _ _ _ _ _ (v3.below c2_2) ((T3.below c0_2).more c0_2.size) c2_2.size (by omega) (by rw [HX3.out, hb.1]; omega) (by rw [HX3.out]; exact hbs) (hT1.below c0_2 hT1.lt) (hT2.below c0_2 hT2.lt)) ?_
      rw [HX3.out]
      rintro e w3 ⟨rfl, b3⟩
      have c0_3 := c0_2.trans (b3.mono c0_2.size)
      have c2_3 := b3
      refine ⟨_, rfl, c0_3, ?_⟩
      simp only [Act.put, List.setIfInBounds_toArray, List.set_cons_zero, List.set_cons_succ]
      refine Held.one 6 (by kernel_rfl) ?_
      refine Held.op_call 6 (some 34) 12 #[.slice (some ⟨w.heap.size, 0, none⟩) k k] rfl rfl rfl rfl (enters_of Tryd.func12 (by kernel_rfl) rfl) (by simp [Act.eval])
        (rsum_any _ _ _ _ _ _ (hb.below c0_3) c0_3.size (by omega)) ?_
      rintro e w4 ⟨rfl, b4⟩
      have c0_4 := c0_3.trans (b4.mono c0_3.size)
      have c2_4 := c2_3.trans (b4.mono c2_3.size)
      refine ⟨_, rfl, c0_4, ?_⟩
      simp only [Act.put, List.setIfInBounds_toArray, List.set_cons_zero, List.set_cons_succ]
      refine Held.take (v := .bool true) 7 (some 35) rfl rfl (by kernel_rfl) (by kernel_rfl) (by kernel_rfl) (fun _ _ _ h => h) rfl (Held.y_eql rfl rfl rfl (by kernel_rfl) Tryd.underlying26 Tryd.underlying5 (by kernel_rfl) (out_length _)) c0_4 ?_
      simp only [Act.put, List.setIfInBounds_toArray, List.set_cons_zero, List.set_cons_succ]
      refine Held.take (v := .bool true) 8 (some 36) rfl rfl (by kernel_rfl) (by kernel_rfl) (by kernel_rfl) (fun _ _ _ h => h) rfl (Held.y_pick rfl rfl rfl) c0_4 ?_
      simp only [Act.put, List.setIfInBounds_toArray, List.set_cons_zero, List.set_cons_succ]
      refine Held.take (v := .bool true) 9 (some 37) rfl rfl (by kernel_rfl) (by kernel_rfl) (by kernel_rfl) (fun _ _ _ h => h) rfl (Held.y_move rfl rfl) c0_4 ?_
      simp only [Act.put, List.setIfInBounds_toArray, List.set_cons_zero, List.set_cons_succ]
      refine Held.take (v := .slice (some ⟨w.heap.size, 0, none⟩) k k) 10 (some 38) rfl rfl (by kernel_rfl) (by kernel_rfl) (by kernel_rfl) (fun _ _ _ h => h) rfl (Held.y_move rfl rfl) c0_4 ?_
      simp only [Act.put, List.setIfInBounds_toArray, List.set_cons_zero, List.set_cons_succ]
      refine Held.take (v := .int .i64 (k : Int)) 11 (some 39) rfl rfl (by kernel_rfl) (by kernel_rfl) (by kernel_rfl) (fun _ _ _ h => h) rfl (Held.y_move rfl rfl) c0_4 ?_
      simp only [Act.put, List.setIfInBounds_toArray, List.set_cons_zero, List.set_cons_succ]
      refine Held.take (v := .int .i64 (h : Int)) 12 (some 40) rfl rfl (by kernel_rfl) (by kernel_rfl) (by kernel_rfl) (fun _ _ _ h => h) rfl (Held.y_int rfl rfl rfl (Held.run_quo _ _ (by decide) hqr)) c0_4 ?_
      simp only [Act.put, List.setIfInBounds_toArray, List.set_cons_zero, List.set_cons_succ]
      refine Held.take (v := .slice (some ⟨w.heap.size, 0, none⟩) h k) 13 (some 41) rfl rfl (by kernel_rfl) (by kernel_rfl) (by kernel_rfl) (fun _ _ _ h => h) rfl (Held.y_slice rfl e1) c0_4 ?_
      simp only [Act.put, List.setIfInBounds_toArray, List.set_cons_zero, List.set_cons_succ]
      refine Held.take (v := .slice (some ⟨w.heap.size, 0, none⟩) k k) 14 (some 42) rfl rfl (by kernel_rfl) (by kernel_rfl) (by kernel_rfl) (fun _ _ _ h => h) rfl (Held.y_move rfl rfl) c0_4 ?_
      simp only [Act.put, List.setIfInBounds_toArray, List.set_cons_zero, List.set_cons_succ]
      refine Held.take (v := .int .i64 (k : Int)) 15 (some 43) rfl rfl (by kernel_rfl) (by kernel_rfl) (by kernel_rfl) (fun _ _ _ h => h) rfl (Held.y_move rfl rfl) c0_4 ?_
      simp only [Act.put, List.setIfInBounds_toArray, List.set_cons_zero, List.set_cons_succ]
      refine Held.take (v := .int .i64 (h : Int)) 16 (some 44) rfl rfl (by kernel_rfl) (by kernel_rfl) (by kernel_rfl) (fun _ _ _ h => h) rfl (Held.y_int rfl rfl rfl (Held.run_quo _ _ (by decide) hqr)) c0_4 ?_
      simp only [Act.put, List.setIfInBounds_toArray, List.set_cons_zero, List.set_cons_succ]
      refine Held.take (v := .slice A2 (k - h) (k - h)) 17 (some 45) rfl rfl (by kernel_rfl) (by kernel_rfl) (by kernel_rfl) (fun _ _ _ h => h) rfl (Held.y_slice rfl e2) c0_4 ?_
      simp only [Act.put, List.setIfInBounds_toArray, List.set_cons_zero, List.set_cons_succ]
      refine Held.take (v := .slice (some ⟨w.heap.size, 0, none⟩) k k) 20 (some 48) rfl rfl (by kernel_rfl) (by kernel_rfl) (by kernel_rfl) (fun _ _ _ h => h) rfl (Held.y_move rfl rfl) c0_4 ?_
      simp only [Act.put, List.setIfInBounds_toArray, List.set_cons_zero, List.set_cons_succ]
      refine Held.one 18 (by kernel_rfl) ?_
      refine Held.op_build 18 (some 46) 22 24 2 (.slice none 0 0) 24 [.slice (some ⟨w.heap.size, 0, none⟩) h k, .slice A2 (k - h) (k - h)] rfl rfl rfl rfl Tryd.underlying22 info_bytes (by simp [Act.eval]) (by simp [Value.cells]) (by simp [Value.oneCell']) rfl (by omega) (by omega) ?_
      intro p18 w5 v18 b5
      have c0_5 := c0_4.trans (b5.mono c0_4.size)
      have c2_5 := c2_4.trans (b5.mono c2_4.size)
      have c5_5 := Below.refl w5.heap.size w5
      refine ⟨c0_5, ?_⟩
      simp only [Act.put, List.setIfInBounds_toArray, List.set_cons_zero, List.set_cons_succ]
      refine Held.one 19 (by kernel_rfl) ?_
      refine Held.op_call 19 (some 47) 11 #[.slice (some ⟨p18, 0, none⟩) 2 2] rfl rfl rfl rfl (enters_of Tryd.func11 (by kernel_rfl) rfl) (by simp [Act.eval])
        (sum_any _ _ _ _ _ _ _ (v18.below c5_5) ((T18.below c0_5).more c0_5.size) c5_5.size (by omega) (by rw [HX18.out, hb.1]; omega) (by rw [HX18.out]; exact hbs) (hT1.below c0_5 hT1.lt) (hT2.below c0_5 hT2.lt)) ?_
      rw [HX18.out]
      rintro e w6 ⟨rfl, b6⟩
      have c0_6 := c0_5.trans (b6.mono c0_5.size)
      have c2_6 := c2_5.trans (b6.mono c2_5.size)
      have c5_6 := b6
      refine ⟨_, rfl, c0_6, ?_⟩
      simp only [Act.put, List.setIfInBounds_toArray, List.set_cons_zero, List.set_cons_succ]
      refine Held.one 21 (by kernel_rfl) ?_
      refine Held.op_call 21 (some 49) 12 #[.slice (some ⟨w.heap.size, 0, none⟩) k k] rfl rfl rfl rfl (enters_of Tryd.func12 (by kernel_rfl) rfl) (by simp [Act.eval])
        (rsum_any _ _ _ _ _ _ (hb.below c0_6) c0_6.size (by omega)) ?_
      rintro e w7 ⟨rfl, b7⟩
      have c0_7 := c0_6.trans (b7.mono c0_6.size)
      have c2_7 := c2_6.trans (b7.mono c2_6.size)
      have c5_7 := c5_6.trans (b7.mono c5_6.size)
      refine ⟨_, rfl, c0_7, ?_⟩
      simp only [Act.put, List.setIfInBounds_toArray, List.set_cons_zero, List.set_cons_succ]
      refine Held.take (v := .bool true) 22 (some 50) rfl rfl (by kernel_rfl) (by kernel_rfl) (by kernel_rfl) (fun _ _ _ h => h) rfl (Held.y_eql rfl rfl rfl (by kernel_rfl) Tryd.underlying26 Tryd.underlying5 (by kernel_rfl) (out_length _)) c0_7 ?_
      simp only [Act.put, List.setIfInBounds_toArray, List.set_cons_zero, List.set_cons_succ]
      refine Held.take (v := .bool true) 23 (some 51) rfl rfl (by kernel_rfl) (by kernel_rfl) (by kernel_rfl) (fun _ _ _ h => h) rfl (Held.y_pick rfl rfl rfl) c0_7 ?_
      simp only [Act.put, List.setIfInBounds_toArray, List.set_cons_zero, List.set_cons_succ]
      refine Held.take (v := .bool true) 24 (some 4) rfl rfl (by kernel_rfl) (by kernel_rfl) (by kernel_rfl) (fun _ _ _ h => h) rfl (Held.y_assign rfl rfl) c0_7 ?_
      simp only [Act.put, List.setIfInBounds_toArray, List.set_cons_zero, List.set_cons_succ]
      refine wpAnyH_done (by kernel_rfl) ?_ _
      go_wp2_with fail
      go_ret
      exact ⟨rfl, hbl.trans (c0_7.mono hbl.size)⟩

theorem walk (a0 : Int) (a1 : Int) (w : World) (w0 : (Lit.int .i64 a0).wf = true) (w1 : (Lit.int .u8 a1).wf = true) (hL : laidMetH Tryd.prog laidList w) :
    Calls Tryd.prog 4 #[.int .i64 a0, .int .u8 a1] w fun e w' => e = .returned (.bool true) ∧ Below w.heap.size w w' := by
  exact start a0 a1 w (wf_u8 w1) (sha_of_laid hL)

set_option maxRecDepth 100000 in
theorem door_met (os : Os) (args : Array Value) : laidMetH Tryd.prog laidList ((World.doorLaid Tryd.prog 400 os).forCall (fun _ _ => 0) ⟨#[], args, []⟩).memory :=
  laidMetH_of_parts3 (fuel := 8) (laidMet_of_run' 8 (by kernel_rfl) (by kernel_rfl)) (by kernel_rfl) (by kernel_rfl)

set_option maxRecDepth 100000 in
theorem lifted (os : Os) (started : os.Started) (H : Type) (enc : TypeId × Value → H) :
    ReturnsInHanded {} Tryd.checked os 4 .any (fun w args => (Rows.shaEdgesSpec.pre enc Tryd.prog Tryd.f4 [] false w args ∧ laidMetH Tryd.prog laidList w) ∧ sizedMet enc Tryd.prog Tryd.f4 (OpenSpec.ofChange Rows.shaEdgesSpec) false w args)
      (Rows.shaEdgesSpec.post enc Tryd.prog Tryd.f4 false true false false) := by
  refine returnsInHanded_of_change_and (C := Tryd.checked) (X := fun w _ => laidMetH Tryd.prog laidList w) (fun _ _ _ hh h => h.of_heap hh) own started (by kernel_rfl) Tryd.func4
    (ChangeSpec.witness_shaped (enc := enc) (C := Tryd.checked) (os := os) (X := fun w _ => laidMetH Tryd.prog laidList w) false (World.doorLaid Tryd.prog 400 os) #[.int .i64 0, .int .u8 0] 8 rfl (World.shaped_of_RefB (by kernel_rfl) (by kernel_rfl)) (by kernel_rfl) (by kernel_rfl) (by kernel_rfl) (door_met os _)) ?_
  intro W base args ds gs before hval0 hW _ _ hL _
  have hval : ∀ (j : Nat) t v, Tryd.f4.params[j]? = some t → args[j]? = some v → Value.okWide Tryd.prog W .any base t v := hval0
  have hW' := hW
  obtain ⟨p, q, hA0, hV, rfl, hfz, hnd⟩ := hW
  have hA : DataW.TrodAll enc Tryd.prog W 0 (fun _ => true) true Tryd.f4.params.toList args.toList ds p := hA0
  rw [Tryd.params4] at hA hval
  obtain ⟨v0, vs0, d0, ds0, p0, q0, hargs, rfl, rfl, h0, r0⟩ := trodAll_cons hA
  obtain ⟨v1, vs1, d1, ds1, p1, q1, rfl, rfl, rfl, h1, r1⟩ := trodAll_cons r0
  obtain ⟨rfl, rfl, rfl⟩ := trodAll_nil r1
  obtain rfl : args = #[v0, v1] := by cases args; simp_all
  obtain ⟨rfl, rfl⟩ := trodVars_none hV
  obtain ⟨a0, rfl, rfl, rfl, w0⟩ := open_int Tryd.underlying3 (hval 0 3 v0 rfl rfl) h0
  obtain ⟨a1, rfl, rfl, rfl, w1⟩ := open_int Tryd.underlying5 (hval 1 5 v1 rfl rfl) h1
  clear hA0 hval0
  refine (walk a0 a1 W w0 w1 hL).mono fun e W' ⟨he, bel⟩ => ?_
  subst he
  exact ⟨_, rfl, _, _, _, [], _, [], hW', trodAll_mk1 (shut_bool Tryd.underlying4 _), (trodAll_cons_mk (shut_int Tryd.underlying3 w0) (trodAll_cons_mk (shut_int Tryd.underlying5 w1) trodAll_mk0)), rfl, bel.frame _, fun h => by cases h⟩

theorem over : Rows.shaEdgesRow.holds Tryd.pinned (OpenSpec.ofChange Rows.shaEdgesSpec) :=
  OpenClaim.holds_of_wide 4 Tryd.f4 rfl rfl rfl rfl rfl rfl rfl ⟨rfl, rfl, rfl, rfl, rfl⟩ rfl rfl rfl rfl rfl (by kernel_rfl) Tryd.func4 (by kernel_rfl)
    (of_decide_eq_true (by kernel_rfl)) (by unfold Func.isWrapper; first | (rw [if_pos (by decide +kernel)]; kernel_rfl) | (rw [if_neg (by decide +kernel)]; exact ⟨rfl, rfl⟩))
    (fun os started H enc _ => lifted os started H enc)

/-- the statement -/
theorem proved : Rows.ShaEdgesCardSaid :=
  Claim7.holds_tied_plain_at .later [] [.data, .data] true (true, "74715a686186f48c3dd40144d148d95e47866ac8009af2670855dcda67169850") false
    over (fun _ h => by cases h) (by kernel_rfl) (fun _ h => by cases h) shaEdges_row_tie rfl ⟨rfl, rfl⟩ (by kernel_rfl) rfl
    (fun f fn hf hfn => by
      obtain rfl : f = 4 := Option.some.inj ((show Tryd.prog.funcNamed "domino/dominolaw02.ShaEdges" = some 4 by kernel_rfl).symm.trans hf) |>.symm
      obtain rfl : fn = Tryd.f4 := (Option.some.inj (Tryd.func4.symm.trans hfn)).symm
      exact ⟨by kernel_rfl, fun j t ht => by
        rw [Tryd.params4] at ht
        have hm : t ∈ [3, 5] := by simpa using Array.mem_of_getElem? ht
        have hall : ([3, 5].all fun u => !Tryd.prog.wantsStandIn u) = true := by kernel_rfl
        exact (show Tryd.prog.wantsStandIn t = false by simpa using List.all_eq_true.1 hall t hm)⟩)
    (by kernel_rfl)
#print axioms proved
end Go.Proofs.YtaggpecikiknkaaDoor.shaEdges
