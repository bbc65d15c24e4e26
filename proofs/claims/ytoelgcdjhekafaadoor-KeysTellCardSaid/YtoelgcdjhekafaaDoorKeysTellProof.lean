/-
  The law KeysTell of package dominolaw08 returns true for every master, number, place, sender, start and pair of numbers: the keys, nonces, bytes beside, and names are the document's own. The tables of packages sha, internal/strconv and math/bits hold what the program's text lays (tied); that nothing else writes them is the translator's report.
-/
import Derived.Test.YtoelgcdjhekafaaDoorRows
import Derived.Test.YtoelgcdjhekafaaDoorCards
import Derived.Test.YtoelgcdjhekafaaDoorTie
import Derived.SevenTiedAt
import Derived.WalkKit
import Derived.ProofKit
import Derived.OpenShut
import Derived.ShutString
import Derived.ChangeOld
import Derived.Below
import Derived.LaidMore
import Derived.Stop.Joined
import Derived.Test.YtoelgcdjhekafaaDoorB17
import Derived.Test.YtoelgcdjhekafaaDoorB9
import Derived.Test.YtoelgcdjhekafaaDoorB5
namespace Go.Proofs.YtoelgcdjhekafaaDoor.keysTell
open Go.ChangeShapes Go.WideShapes Go.ChangeAt Go.RowKit
open Go.ChangeMaps (open_string shut_string)
open Go.Shelf Go.Proofs.YtoelgcdjhekafaaDoor.Mem Go.Proofs.YtoelgcdjhekafaaDoor.Help Go.Proofs.YtoelgcdjhekafaaDoor.Sum Go.Proofs.YtoelgcdjhekafaaDoor.Sha Go.Proofs.YtoelgcdjhekafaaDoor.Mac Go.Proofs.YtoelgcdjhekafaaDoor.Po Go.Proofs.YtoelgcdjhekafaaDoor.Hkdf Go.Proofs.YtoelgcdjhekafaaDoor.Ky Go.Proofs.YtoelgcdjhekafaaDoor
set_option linter.unusedVariables false

theorem own : ownKnob Tryd.prog.godebug = none := by kernel_rfl
theorem laidOut : laidOutB Tryd.prog = true := by kernel_rfl

/-- what a slice that came in leads to -/
def IsRow (k : IntKind) (w : World) (a : Option Addr) (len cap : Nat) (zs : List Int) : Prop :=
  (a = none ∧ len = 0 ∧ cap = 0 ∧ zs = []) ∨
  ∃ x, a = some x ∧ len ≤ cap ∧ cap ≤ maxLen ∧ zs.length = cap ∧ (∀ i, i < zs.length → w.cell? (x.add i) = some (.int k (zs.getD i 0))) ∧ ∀ n ∈ zs, (Lit.int k n).wf = true

def laidList : List (String × DataW Unit) := [("math/bits.deBruijn32tab", Rows.laid_math_bits_deBruijn32tab), ("math/bits.deBruijn64tab", Rows.laid_math_bits_deBruijn64tab), ("internal/strconv.uint64pow10", Rows.laid_internal_strconv_uint64pow10), ("domino/sha.start", Rows.laid_domino_sha_start), ("domino/sha.words", Rows.laid_domino_sha_words)]

attribute [local irreducible] wpList Calls

set_option maxRecDepth 100000 in
set_option maxHeartbeats 16000000 in
theorem start (ms : List Int) (id : Int) (ph rr ad : Int) (t : Nat) (ix fr sa a i : Int) (u : World) (hm : ms.length = 32) (hmw : ∀ z ∈ ms, (Lit.int .u8 z).wf = true) (hid : (Lit.int .u64 id).wf = true) (hph : (Lit.int .i64 ph).wf = true) (hrr : (Lit.int .i64 rr).wf = true) (had : (Lit.int .i64 ad).wf = true) (hix : (Lit.int .i64 ix).wf = true) (ht : t < 18446744073709551616) (hsa : (Lit.int .u64 sa).wf = true) (ha : (Lit.int .u64 a).wf = true) (hL0 : Laid u) :
    Calls Tryd.prog 3 #[.agg (arr .u8 ms), .int .u64 id, .agg #[.int .i64 ph, .int .i64 rr, .int .i64 ad, .int .u64 (t : Int), .int .i64 ix], .int .i64 fr, .int .u64 sa, .int .u64 a, .int .i64 i] u fun e u' => e = .returned (.bool true) ∧ Below u.heap.size u u' := by
  have HM := Lib.hid hm
  have HMW := Lib.hid hmw
  have htw : (Lit.int .u64 (t : Int)).wf = true := wf_64 (by omega)
  clear hm hmw
  go_enter Tryd.func3, Tryd.ntmps3
  go_wp2_with (first
    | (refine wpList_box_Row (w := u) rfl 22 _ rfl .u8 ms rfl HMW.out ?_; intro u1 m1 g1 z1)
    | (refine wpList_box_place (w := u1) rfl _ rfl #[.int .i64 ph, .int .i64 rr, .int .i64 ad, .int .u64 (t : Int), .int .i64 ix] rfl rfl ?_; intro u2 q2 g2; have m2 := m1.grown g2 (by simp))
    | (refine wpList_load_Row (w := u2) rfl 22 _ rfl u.heap.size rfl 22 .u8 _ m2 32 5 Tryd.underlying22 info_32 HM.out ?_))
  have bu2 : Below u.heap.size u u2 := ((Below.refl _ u).grown g1 (Nat.le_refl _) (by simp)).grown g2 g1.size (by simp)
  have L2 : Laid u2 := hL0.below bu2
  obtain ⟨ga, hga⟩ : ∃ g, u.heap.size = g := ⟨_, rfl⟩
  obtain ⟨gp, hgp⟩ : ∃ g, u1.heap.size = g := ⟨_, rfl⟩
  rw [hgp] at q2 ⊢
  rw [hga] at m2 ⊢
  have HGA := Lib.hid hga
  clear hga hgp g1 g2 z1 m1
  refine (job_any ms HM.out HMW.out id hid u2 L2.start L2.words).mono ?_
  rintro e u3 ⟨rfl, b3⟩
  have bu3 := bu2.trans (b3.mono bu2.size)
  have m3 := m2.below b3 m2.lt
  have q3 := (b3.block gp (Array.getElem?_eq_some_iff.1 q2).1).trans q2
  have L3 := L2.below b3
  have HJ := Lib.hid (kJob_length ms id)
  have HJW := Lib.hid (kJob_wf ms id)
  obtain ⟨jb, hjb⟩ : ∃ jb, kJob ms id = jb := ⟨_, rfl⟩
  rw [hjb] at HJ HJW ⊢
  have HJB := Lib.hid hjb
  clear hjb b3 bu2 m2 q2 L2
  go_wp2_with (first
    | (refine wpList_alloc_Row (w := u3) rfl 22 rfl .u8 32 zero_32 ?_; intro u4 j4 g4 z4)
    | (refine wpList_store_RowTo (w := u4) rfl 22 _ _ rfl u3.heap.size rfl 22 .u8 _ jb rfl j4 32 info_32 HJ.out (by simp) HJW.out ?_; intro u5 j5 g5 z5))
  have s3 := bu3.size
  have hlm := m3.lt
  have hlp := (Array.getElem?_eq_some_iff.1 q3).1
  have m5 := (m3.grown g4 (by simp)).grown g5 (by intro e; injection e with e; omega)
  have q5 := Held.keep_cells (Held.keep_cells q3 g4 (by simp)) g5 (by intro e; injection e with e; omega)
  have bu5 : Below u.heap.size u u5 := (bu3.grown g4 s3 (by simp)).grown g5 (by have := g4.size; omega) (fun r e => by cases e; exact s3)
  have hL : Laid u5 := hL0.below bu5
  have hgp5 := (Array.getElem?_eq_some_iff.1 q5).1
  obtain ⟨gj, hgj⟩ : ∃ g, u3.heap.size = g := ⟨_, rfl⟩
  rw [hgj] at j5 ⊢
  clear hgj g4 g5 z4 z5 j4 m3 q3 L3 hlm hlp s3 bu3
  have rjob_b : ∀ W : World, Calls Tryd.prog 9 #[.agg (arr .u8 ms), .int .u64 id] W fun e W' => e = .returned (.agg (arr .u8 jb)) ∧ Below W.heap.size W W' := fun W => by rw [← HJB.out]; exact rjob_any ms HM.out HMW.out id W
  refine wp_region_held (S := fun W => Below u5.heap.size u5 W) (by kernel_rfl) ?_
  change wpAnyH _ _ _ _ _ _ _ _ u5.drew
  have c0_0 := (Below.refl u5.heap.size u5).drew
  refine Held.one 0 (by kernel_rfl) ?_
  refine Held.op_call 0 (some 19) 8 #[] rfl rfl rfl rfl (enters_of Tryd.func8 (by kernel_rfl) rfl) (by simp)
    (awake8_any _ (hL.below c0_0)) ?_
  rintro e w1 ⟨rfl, b1⟩
  have c0_1 := c0_0.trans (b1.mono c0_0.size)
  refine ⟨_, rfl, c0_1, ?_⟩
  simp only [Act.put, List.setIfInBounds_toArray, List.set_cons_zero, List.set_cons_succ]
  refine Held.take (v := .bool true) 1 (some 20) rfl rfl (by kernel_rfl) (by kernel_rfl) (by kernel_rfl) (fun _ _ _ h => h) rfl (Held.y_move rfl rfl) c0_1 ?_
  simp only [Act.put, List.setIfInBounds_toArray, List.set_cons_zero, List.set_cons_succ]
  refine Held.take (v := .agg (arr .u8 jb)) 2 (some 21) rfl rfl (by kernel_rfl) (by kernel_rfl) (by kernel_rfl) (fun _ _ _ h => h) rfl (Held.y_load_Row (zs := jb) rfl rfl Tryd.underlying22 info_32 HJ.out (fun W hW => j5.below hW j5.lt)) c0_1 ?_
  simp only [Act.put, List.setIfInBounds_toArray, List.set_cons_zero, List.set_cons_succ]
  refine Held.take (v := .agg (arr .u8 ms)) 3 (some 22) rfl rfl (by kernel_rfl) (by kernel_rfl) (by kernel_rfl) (fun _ _ _ h => h) rfl (Held.y_load_Row (zs := ms) rfl rfl Tryd.underlying22 info_32 HM.out (fun W hW => m5.below hW m5.lt)) c0_1 ?_
  simp only [Act.put, List.setIfInBounds_toArray, List.set_cons_zero, List.set_cons_succ]
  refine Held.take (v := .int .u64 id) 4 (some 23) rfl rfl (by kernel_rfl) (by kernel_rfl) (by kernel_rfl) (fun _ _ _ h => h) rfl (Held.y_move rfl rfl) c0_1 ?_
  simp only [Act.put, List.setIfInBounds_toArray, List.set_cons_zero, List.set_cons_succ]
  refine Held.one 5 (by kernel_rfl) ?_
  refine Held.op_call 5 (some 24) 9 #[.agg (arr .u8 ms), .int .u64 id] rfl rfl rfl rfl (enters_of Tryd.func9 (by kernel_rfl) rfl) (by simp [Act.eval])
    (rjob_b _) ?_
  rintro e w2 ⟨rfl, b2⟩
  have c0_2 := c0_1.trans (b2.mono c0_1.size)
  refine ⟨_, rfl, c0_2, ?_⟩
  simp only [Act.put, List.setIfInBounds_toArray, List.set_cons_zero, List.set_cons_succ]
  refine Held.take (v := .bool true) 6 (some 25) rfl rfl (by kernel_rfl) (by kernel_rfl) (by kernel_rfl) (fun _ _ _ h => h) rfl (Held.y_eql rfl rfl rfl (by kernel_rfl) Tryd.underlying22 Tryd.underlying5 (by kernel_rfl) (HJ.out)) c0_2 ?_
  simp only [Act.put, List.setIfInBounds_toArray, List.set_cons_zero, List.set_cons_succ]
  refine Held.take (v := .bool true) 7 (some 26) rfl rfl (by kernel_rfl) (by kernel_rfl) (by kernel_rfl) (fun _ _ _ h => h) rfl (Held.y_pick rfl rfl rfl) c0_2 ?_
  simp only [Act.put, List.setIfInBounds_toArray, List.set_cons_zero, List.set_cons_succ]
  refine Held.take (v := .bool true) 8 (some 27) rfl rfl (by kernel_rfl) (by kernel_rfl) (by kernel_rfl) (fun _ _ _ h => h) rfl (Held.y_move rfl rfl) c0_2 ?_
  simp only [Act.put, List.setIfInBounds_toArray, List.set_cons_zero, List.set_cons_succ]
  refine Held.take (v := .agg (arr .u8 jb)) 9 (some 28) rfl rfl (by kernel_rfl) (by kernel_rfl) (by kernel_rfl) (fun _ _ _ h => h) rfl (Held.y_load_Row (zs := jb) rfl rfl Tryd.underlying22 info_32 HJ.out (fun W hW => j5.below hW j5.lt)) c0_2 ?_
  simp only [Act.put, List.setIfInBounds_toArray, List.set_cons_zero, List.set_cons_succ]
  refine Held.take (v := .agg #[.int .i64 ph, .int .i64 rr, .int .i64 ad, .int .u64 (t : Int), .int .i64 ix]) 10 (some 29) rfl rfl (by kernel_rfl) (by kernel_rfl) (by kernel_rfl) (fun _ _ _ h => h) rfl (y_load_place rfl rfl rfl (fun W hW => (hW.block gp hgp5).trans q5)) c0_2 ?_
  simp only [Act.put, List.setIfInBounds_toArray, List.set_cons_zero, List.set_cons_succ]
  refine Held.take (v := .agg (arr .u8 jb)) 12 (some 31) rfl rfl (by kernel_rfl) (by kernel_rfl) (by kernel_rfl) (fun _ _ _ h => h) rfl (Held.y_load_Row (zs := jb) rfl rfl Tryd.underlying22 info_32 HJ.out (fun W hW => j5.below hW j5.lt)) c0_2 ?_
  simp only [Act.put, List.setIfInBounds_toArray, List.set_cons_zero, List.set_cons_succ]
  refine Held.take (v := .agg #[.int .i64 ph, .int .i64 rr, .int .i64 ad, .int .u64 (t : Int), .int .i64 ix]) 13 (some 32) rfl rfl (by kernel_rfl) (by kernel_rfl) (by kernel_rfl) (fun _ _ _ h => h) rfl (y_load_place rfl rfl rfl (fun W hW => (hW.block gp hgp5).trans q5)) c0_2 ?_
  simp only [Act.put, List.setIfInBounds_toArray, List.set_cons_zero, List.set_cons_succ]
  refine Held.one 11 (by kernel_rfl) ?_
  refine Held.op_call 11 (some 30) 10 #[.agg (arr .u8 jb), .agg #[.int .i64 ph, .int .i64 rr, .int .i64 ad, .int .u64 (t : Int), .int .i64 ix]] rfl rfl rfl rfl (enters_of Tryd.func10 (by kernel_rfl) rfl) (by simp [Act.eval])
    (place_any jb HJ.out HJW.out ph rr ad (t : Int) ix _ (hL.below c0_2).start (hL.below c0_2).words) ?_
  rintro e w3 ⟨rfl, b3⟩
  have c0_3 := c0_2.trans (b3.mono c0_2.size)
  refine ⟨_, rfl, c0_3, ?_⟩
  simp only [Act.put, List.setIfInBounds_toArray, List.set_cons_zero, List.set_cons_succ]
  refine Held.one 14 (by kernel_rfl) ?_
  refine Held.op_call 14 (some 33) 11 #[.agg (arr .u8 jb), .agg #[.int .i64 ph, .int .i64 rr, .int .i64 ad, .int .u64 (t : Int), .int .i64 ix]] rfl rfl rfl rfl (enters_of Tryd.func11 (by kernel_rfl) rfl) (by simp [Act.eval])
    (rplace_any jb HJ.out HJW.out ph rr ad (t : Int) ix _) ?_
  rintro e w4 ⟨rfl, b4⟩
  have c0_4 := c0_3.trans (b4.mono c0_3.size)
  refine ⟨_, rfl, c0_4, ?_⟩
  simp only [Act.put, List.setIfInBounds_toArray, List.set_cons_zero, List.set_cons_succ]
  refine Held.take (v := .bool true) 15 (some 34) rfl rfl (by kernel_rfl) (by kernel_rfl) (by kernel_rfl) (fun _ _ _ h => h) rfl (Held.y_eql rfl rfl rfl (by kernel_rfl) Tryd.underlying22 Tryd.underlying5 (by kernel_rfl) (hkey_length _ _ _)) c0_4 ?_
  simp only [Act.put, List.setIfInBounds_toArray, List.set_cons_zero, List.set_cons_succ]
  refine Held.take (v := .bool true) 16 (some 35) rfl rfl (by kernel_rfl) (by kernel_rfl) (by kernel_rfl) (fun _ _ _ h => h) rfl (Held.y_pick rfl rfl rfl) c0_4 ?_
  simp only [Act.put, List.setIfInBounds_toArray, List.set_cons_zero, List.set_cons_succ]
  refine Held.take (v := .bool true) 17 (some 36) rfl rfl (by kernel_rfl) (by kernel_rfl) (by kernel_rfl) (fun _ _ _ h => h) rfl (Held.y_move rfl rfl) c0_4 ?_
  simp only [Act.put, List.setIfInBounds_toArray, List.set_cons_zero, List.set_cons_succ]
  refine Held.take (v := .agg (arr .u8 jb)) 18 (some 37) rfl rfl (by kernel_rfl) (by kernel_rfl) (by kernel_rfl) (fun _ _ _ h => h) rfl (Held.y_load_Row (zs := jb) rfl rfl Tryd.underlying22 info_32 HJ.out (fun W hW => j5.below hW j5.lt)) c0_4 ?_
  simp only [Act.put, List.setIfInBounds_toArray, List.set_cons_zero, List.set_cons_succ]
  refine Held.take (v := .int .i64 fr) 19 (some 38) rfl rfl (by kernel_rfl) (by kernel_rfl) (by kernel_rfl) (fun _ _ _ h => h) rfl (Held.y_move rfl rfl) c0_4 ?_
  simp only [Act.put, List.setIfInBounds_toArray, List.set_cons_zero, List.set_cons_succ]
  refine Held.take (v := .int .u64 sa) 20 (some 39) rfl rfl (by kernel_rfl) (by kernel_rfl) (by kernel_rfl) (fun _ _ _ h => h) rfl (Held.y_move rfl rfl) c0_4 ?_
  simp only [Act.put, List.setIfInBounds_toArray, List.set_cons_zero, List.set_cons_succ]
  refine Held.take (v := .agg (arr .u8 jb)) 22 (some 41) rfl rfl (by kernel_rfl) (by kernel_rfl) (by kernel_rfl) (fun _ _ _ h => h) rfl (Held.y_load_Row (zs := jb) rfl rfl Tryd.underlying22 info_32 HJ.out (fun W hW => j5.below hW j5.lt)) c0_4 ?_
  simp only [Act.put, List.setIfInBounds_toArray, List.set_cons_zero, List.set_cons_succ]
  refine Held.take (v := .int .i64 fr) 23 (some 42) rfl rfl (by kernel_rfl) (by kernel_rfl) (by kernel_rfl) (fun _ _ _ h => h) rfl (Held.y_move rfl rfl) c0_4 ?_
  simp only [Act.put, List.setIfInBounds_toArray, List.set_cons_zero, List.set_cons_succ]
  refine Held.take (v := .int .u64 sa) 24 (some 43) rfl rfl (by kernel_rfl) (by kernel_rfl) (by kernel_rfl) (fun _ _ _ h => h) rfl (Held.y_move rfl rfl) c0_4 ?_
  simp only [Act.put, List.setIfInBounds_toArray, List.set_cons_zero, List.set_cons_succ]
  refine Held.one 21 (by kernel_rfl) ?_
  refine Held.op_call 21 (some 40) 12 #[.agg (arr .u8 jb), .int .i64 fr, .int .u64 sa] rfl rfl rfl rfl (enters_of Tryd.func12 (by kernel_rfl) rfl) (by simp [Act.eval])
    (sender_any jb HJ.out HJW.out fr sa hsa _ (hL.below c0_4).start (hL.below c0_4).words) ?_
  rintro e w5 ⟨rfl, b5⟩
  have c0_5 := c0_4.trans (b5.mono c0_4.size)
  refine ⟨_, rfl, c0_5, ?_⟩
  simp only [Act.put, List.setIfInBounds_toArray, List.set_cons_zero, List.set_cons_succ]
  refine Held.one 25 (by kernel_rfl) ?_
  refine Held.op_call 25 (some 44) 13 #[.agg (arr .u8 jb), .int .i64 fr, .int .u64 sa] rfl rfl rfl rfl (enters_of Tryd.func13 (by kernel_rfl) rfl) (by simp [Act.eval])
    (rsender_any jb HJ.out HJW.out fr sa hsa _) ?_
  rintro e w6 ⟨rfl, b6⟩
  have c0_6 := c0_5.trans (b6.mono c0_5.size)
  refine ⟨_, rfl, c0_6, ?_⟩
  simp only [Act.put, List.setIfInBounds_toArray, List.set_cons_zero, List.set_cons_succ]
  refine Held.take (v := .bool true) 26 (some 45) rfl rfl (by kernel_rfl) (by kernel_rfl) (by kernel_rfl) (fun _ _ _ h => h) rfl (Held.y_eql rfl rfl rfl (by kernel_rfl) Tryd.underlying22 Tryd.underlying5 (by kernel_rfl) (hkey_length _ _ _)) c0_6 ?_
  simp only [Act.put, List.setIfInBounds_toArray, List.set_cons_zero, List.set_cons_succ]
  refine Held.take (v := .bool true) 27 (some 46) rfl rfl (by kernel_rfl) (by kernel_rfl) (by kernel_rfl) (fun _ _ _ h => h) rfl (Held.y_pick rfl rfl rfl) c0_6 ?_
  simp only [Act.put, List.setIfInBounds_toArray, List.set_cons_zero, List.set_cons_succ]
  refine Held.take (v := .bool true) 28 (some 47) rfl rfl (by kernel_rfl) (by kernel_rfl) (by kernel_rfl) (fun _ _ _ h => h) rfl (Held.y_move rfl rfl) c0_6 ?_
  simp only [Act.put, List.setIfInBounds_toArray, List.set_cons_zero, List.set_cons_succ]
  refine Held.take (v := .agg (arr .u8 jb)) 29 (some 48) rfl rfl (by kernel_rfl) (by kernel_rfl) (by kernel_rfl) (fun _ _ _ h => h) rfl (Held.y_load_Row (zs := jb) rfl rfl Tryd.underlying22 info_32 HJ.out (fun W hW => j5.below hW j5.lt)) c0_6 ?_
  simp only [Act.put, List.setIfInBounds_toArray, List.set_cons_zero, List.set_cons_succ]
  refine Held.take (v := .agg (arr .u8 jb)) 31 (some 50) rfl rfl (by kernel_rfl) (by kernel_rfl) (by kernel_rfl) (fun _ _ _ h => h) rfl (Held.y_load_Row (zs := jb) rfl rfl Tryd.underlying22 info_32 HJ.out (fun W hW => j5.below hW j5.lt)) c0_6 ?_
  simp only [Act.put, List.setIfInBounds_toArray, List.set_cons_zero, List.set_cons_succ]
  refine Held.one 30 (by kernel_rfl) ?_
  refine Held.op_call 30 (some 49) 14 #[.agg (arr .u8 jb)] rfl rfl rfl rfl (enters_of Tryd.func14 (by kernel_rfl) rfl) (by simp [Act.eval])
    (journal_any jb HJ.out HJW.out _ (hL.below c0_6).start (hL.below c0_6).words) ?_
  rintro e w7 ⟨rfl, b7⟩
  have c0_7 := c0_6.trans (b7.mono c0_6.size)
  refine ⟨_, rfl, c0_7, ?_⟩
  simp only [Act.put, List.setIfInBounds_toArray, List.set_cons_zero, List.set_cons_succ]
  refine Held.one 32 (by kernel_rfl) ?_
  refine Held.op_call 32 (some 51) 15 #[.agg (arr .u8 jb)] rfl rfl rfl rfl (enters_of Tryd.func15 (by kernel_rfl) rfl) (by simp [Act.eval])
    (rjournal_any jb HJ.out HJW.out _) ?_
  rintro e w8 ⟨rfl, b8⟩
  have c0_8 := c0_7.trans (b8.mono c0_7.size)
  refine ⟨_, rfl, c0_8, ?_⟩
  simp only [Act.put, List.setIfInBounds_toArray, List.set_cons_zero, List.set_cons_succ]
  refine Held.take (v := .bool true) 33 (some 52) rfl rfl (by kernel_rfl) (by kernel_rfl) (by kernel_rfl) (fun _ _ _ h => h) rfl (Held.y_eql rfl rfl rfl (by kernel_rfl) Tryd.underlying22 Tryd.underlying5 (by kernel_rfl) (hkey_length _ _ _)) c0_8 ?_
  simp only [Act.put, List.setIfInBounds_toArray, List.set_cons_zero, List.set_cons_succ]
  refine Held.take (v := .bool true) 34 (some 53) rfl rfl (by kernel_rfl) (by kernel_rfl) (by kernel_rfl) (fun _ _ _ h => h) rfl (Held.y_pick rfl rfl rfl) c0_8 ?_
  simp only [Act.put, List.setIfInBounds_toArray, List.set_cons_zero, List.set_cons_succ]
  refine Held.take (v := .bool true) 35 (some 54) rfl rfl (by kernel_rfl) (by kernel_rfl) (by kernel_rfl) (fun _ _ _ h => h) rfl (Held.y_move rfl rfl) c0_8 ?_
  simp only [Act.put, List.setIfInBounds_toArray, List.set_cons_zero, List.set_cons_succ]
  refine Held.take (v := .int .u64 a) 36 (some 55) rfl rfl (by kernel_rfl) (by kernel_rfl) (by kernel_rfl) (fun _ _ _ h => h) rfl (Held.y_move rfl rfl) c0_8 ?_
  simp only [Act.put, List.setIfInBounds_toArray, List.set_cons_zero, List.set_cons_succ]
  refine Held.take (v := .int .i64 i) 37 (some 56) rfl rfl (by kernel_rfl) (by kernel_rfl) (by kernel_rfl) (fun _ _ _ h => h) rfl (Held.y_move rfl rfl) c0_8 ?_
  simp only [Act.put, List.setIfInBounds_toArray, List.set_cons_zero, List.set_cons_succ]
  refine Held.take (v := .int .u64 a) 39 (some 58) rfl rfl (by kernel_rfl) (by kernel_rfl) (by kernel_rfl) (fun _ _ _ h => h) rfl (Held.y_move rfl rfl) c0_8 ?_
  simp only [Act.put, List.setIfInBounds_toArray, List.set_cons_zero, List.set_cons_succ]
  refine Held.take (v := .int .i64 i) 40 (some 59) rfl rfl (by kernel_rfl) (by kernel_rfl) (by kernel_rfl) (fun _ _ _ h => h) rfl (Held.y_move rfl rfl) c0_8 ?_
  simp only [Act.put, List.setIfInBounds_toArray, List.set_cons_zero, List.set_cons_succ]
  refine Held.one 38 (by kernel_rfl) ?_
  refine Held.op_call 38 (some 57) 16 #[.int .u64 a, .int .i64 i] rfl rfl rfl rfl (enters_of Tryd.func16 (by kernel_rfl) rfl) (by simp [Act.eval])
    (nonce_any a i ha _) ?_
  rintro e w9 ⟨rfl, b9⟩
  have c0_9 := c0_8.trans (b9.mono c0_8.size)
  refine ⟨_, rfl, c0_9, ?_⟩
  simp only [Act.put, List.setIfInBounds_toArray, List.set_cons_zero, List.set_cons_succ]
  refine Held.one 41 (by kernel_rfl) ?_
  refine Held.op_call 41 (some 60) 17 #[.int .u64 a, .int .i64 i] rfl rfl rfl rfl (enters_of Tryd.func17 (by kernel_rfl) rfl) (by simp [Act.eval])
    (rnonce_any a i _) ?_
  rintro e w10 ⟨rfl, b10⟩
  have c0_10 := c0_9.trans (b10.mono c0_9.size)
  refine ⟨_, rfl, c0_10, ?_⟩
  simp only [Act.put, List.setIfInBounds_toArray, List.set_cons_zero, List.set_cons_succ]
  refine Held.take (v := .bool true) 42 (some 61) rfl rfl (by kernel_rfl) (by kernel_rfl) (by kernel_rfl) (fun _ _ _ h => h) rfl (Held.y_eql rfl rfl rfl (by kernel_rfl) Tryd.underlying31 Tryd.underlying5 (by kernel_rfl) (nonce_length _ _)) c0_10 ?_
  simp only [Act.put, List.setIfInBounds_toArray, List.set_cons_zero, List.set_cons_succ]
  refine Held.take (v := .bool true) 43 (some 62) rfl rfl (by kernel_rfl) (by kernel_rfl) (by kernel_rfl) (fun _ _ _ h => h) rfl (Held.y_pick rfl rfl rfl) c0_10 ?_
  simp only [Act.put, List.setIfInBounds_toArray, List.set_cons_zero, List.set_cons_succ]
  refine Held.take (v := .bool true) 44 (some 63) rfl rfl (by kernel_rfl) (by kernel_rfl) (by kernel_rfl) (fun _ _ _ h => h) rfl (Held.y_move rfl rfl) c0_10 ?_
  simp only [Act.put, List.setIfInBounds_toArray, List.set_cons_zero, List.set_cons_succ]
  refine Held.take (v := .agg #[.int .i64 ph, .int .i64 rr, .int .i64 ad, .int .u64 (t : Int), .int .i64 ix]) 45 (some 64) rfl rfl (by kernel_rfl) (by kernel_rfl) (by kernel_rfl) (fun _ _ _ h => h) rfl (y_load_place rfl rfl rfl (fun W hW => (hW.block gp hgp5).trans q5)) c0_10 ?_
  simp only [Act.put, List.setIfInBounds_toArray, List.set_cons_zero, List.set_cons_succ]
  refine Held.take (v := .int .i64 i) 46 (some 65) rfl rfl (by kernel_rfl) (by kernel_rfl) (by kernel_rfl) (fun _ _ _ h => h) rfl (Held.y_move rfl rfl) c0_10 ?_
  simp only [Act.put, List.setIfInBounds_toArray, List.set_cons_zero, List.set_cons_succ]
  refine Held.take (v := .agg #[.int .i64 ph, .int .i64 rr, .int .i64 ad, .int .u64 (t : Int), .int .i64 ix]) 48 (some 67) rfl rfl (by kernel_rfl) (by kernel_rfl) (by kernel_rfl) (fun _ _ _ h => h) rfl (y_load_place rfl rfl rfl (fun W hW => (hW.block gp hgp5).trans q5)) c0_10 ?_
  simp only [Act.put, List.setIfInBounds_toArray, List.set_cons_zero, List.set_cons_succ]
  refine Held.take (v := .int .i64 i) 49 (some 68) rfl rfl (by kernel_rfl) (by kernel_rfl) (by kernel_rfl) (fun _ _ _ h => h) rfl (Held.y_move rfl rfl) c0_10 ?_
  simp only [Act.put, List.setIfInBounds_toArray, List.set_cons_zero, List.set_cons_succ]
  refine Held.one 47 (by kernel_rfl) ?_
  refine Held.op_call 47 (some 66) 19 #[.agg #[.int .i64 ph, .int .i64 rr, .int .i64 ad, .int .u64 (t : Int), .int .i64 ix], .int .i64 i] rfl rfl rfl rfl (enters_of Tryd.func19 (by kernel_rfl) rfl) (by simp [Act.eval])
    (aad_any ph rr ad (t : Int) ix i htw _) ?_
  rintro e w11 ⟨AA, nA, cA, rfl, oA, b11⟩
  have c0_11 := c0_10.trans (b11.mono c0_10.size)
  refine ⟨_, rfl, c0_11, ?_⟩
  simp only [Act.put, List.setIfInBounds_toArray, List.set_cons_zero, List.set_cons_succ]
  refine Held.one 50 (by kernel_rfl) ?_
  refine Held.op_call 50 (some 69) 20 #[.agg #[.int .i64 ph, .int .i64 rr, .int .i64 ad, .int .u64 (t : Int), .int .i64 ix], .int .i64 i] rfl rfl rfl rfl (enters_of Tryd.func20 (by kernel_rfl) rfl) (by simp [Act.eval])
    (raad_any ph rr ad (t : Int) ix i htw _) ?_
  rintro e w12 ⟨AB, nB, cB, rfl, oB, b12⟩
  have c0_12 := c0_11.trans (b12.mono c0_11.size)
  have oA := oA.below b12
  refine ⟨_, rfl, c0_12, ?_⟩
  simp only [Act.put, List.setIfInBounds_toArray, List.set_cons_zero, List.set_cons_succ]
  refine Held.one 51 (by kernel_rfl) ?_
  refine Held.op_call 51 (some 70) 18 #[.slice AA nA cA, .slice AB nB cB] rfl rfl rfl rfl (enters_of Tryd.func18 (by kernel_rfl) rfl) (by simp [Act.eval])
    (Held.bytes_same _ _ _ _ _ _ _ _ _ _ _ (oA.ints oA.caps.1) (oB.ints oB.caps.1) rfl) ?_
  rintro e w13 ⟨rfl, b13⟩
  have c0_13 := c0_12.trans (b13.mono c0_12.size)
  clear oA oB
  refine ⟨_, rfl, c0_13, ?_⟩
  simp only [Act.put, List.setIfInBounds_toArray, List.set_cons_zero, List.set_cons_succ]
  refine Held.take (v := .bool true) 52 (some 71) rfl rfl (by kernel_rfl) (by kernel_rfl) (by kernel_rfl) (fun _ _ _ h => h) rfl (Held.y_pick rfl rfl rfl) c0_13 ?_
  simp only [Act.put, List.setIfInBounds_toArray, List.set_cons_zero, List.set_cons_succ]
  refine Held.take (v := .bool true) 53 (some 72) rfl rfl (by kernel_rfl) (by kernel_rfl) (by kernel_rfl) (fun _ _ _ h => h) rfl (Held.y_move rfl rfl) c0_13 ?_
  simp only [Act.put, List.setIfInBounds_toArray, List.set_cons_zero, List.set_cons_succ]
  refine Held.take (v := .agg #[.int .i64 ph, .int .i64 rr, .int .i64 ad, .int .u64 (t : Int), .int .i64 ix]) 54 (some 73) rfl rfl (by kernel_rfl) (by kernel_rfl) (by kernel_rfl) (fun _ _ _ h => h) rfl (y_load_place rfl rfl rfl (fun W hW => (hW.block gp hgp5).trans q5)) c0_13 ?_
  simp only [Act.put, List.setIfInBounds_toArray, List.set_cons_zero, List.set_cons_succ]
  refine Held.take (v := .agg #[.int .i64 ph, .int .i64 rr, .int .i64 ad, .int .u64 (t : Int), .int .i64 ix]) 56 (some 75) rfl rfl (by kernel_rfl) (by kernel_rfl) (by kernel_rfl) (fun _ _ _ h => h) rfl (y_load_place rfl rfl rfl (fun W hW => (hW.block gp hgp5).trans q5)) c0_13 ?_
  simp only [Act.put, List.setIfInBounds_toArray, List.set_cons_zero, List.set_cons_succ]
  refine Held.one 55 (by kernel_rfl) ?_
  refine Held.op_call 55 (some 74) 21 #[.agg #[.int .i64 ph, .int .i64 rr, .int .i64 ad, .int .u64 (t : Int), .int .i64 ix]] rfl rfl rfl rfl (enters_of Tryd.func21 (by kernel_rfl) rfl) (by simp [Act.eval])
    (name_any ph rr ad t ix (i64_of hph) (i64_of hrr) (i64_of had) ht (i64_of hix) _ (hL.below c0_13).pow) ?_
  rintro e w14 ⟨rfl, b14⟩
  have c0_14 := c0_13.trans (b14.mono c0_13.size)
  refine ⟨_, rfl, c0_14, ?_⟩
  simp only [Act.put, List.setIfInBounds_toArray, List.set_cons_zero, List.set_cons_succ]
  refine Held.one 57 (by kernel_rfl) ?_
  refine Held.op_call 57 (some 76) 22 #[.agg #[.int .i64 ph, .int .i64 rr, .int .i64 ad, .int .u64 (t : Int), .int .i64 ix]] rfl rfl rfl rfl (enters_of Tryd.func22 (by kernel_rfl) rfl) (by simp [Act.eval])
    (rname_any ph rr ad t ix (i64_of hph) (i64_of hrr) (i64_of had) ht (i64_of hix) _) ?_
  rintro e w15 ⟨rfl, b15⟩
  have c0_15 := c0_14.trans (b15.mono c0_14.size)
  refine ⟨_, rfl, c0_15, ?_⟩
  simp only [Act.put, List.setIfInBounds_toArray, List.set_cons_zero, List.set_cons_succ]
  refine Held.take (v := .bool true) 58 (some 77) rfl rfl (by kernel_rfl) (by kernel_rfl) (by kernel_rfl) (fun _ _ _ h => h) rfl (Held.y_eqs rfl rfl rfl Tryd.underlying9) c0_15 ?_
  simp only [Act.put, List.setIfInBounds_toArray, List.set_cons_zero, List.set_cons_succ]
  refine Held.take (v := .bool true) 59 (some 78) rfl rfl (by kernel_rfl) (by kernel_rfl) (by kernel_rfl) (fun _ _ _ h => h) rfl (Held.y_pick rfl rfl rfl) c0_15 ?_
  simp only [Act.put, List.setIfInBounds_toArray, List.set_cons_zero, List.set_cons_succ]
  refine Held.take (v := .bool true) 60 (some 14) rfl rfl (by kernel_rfl) (by kernel_rfl) (by kernel_rfl) (fun _ _ _ h => h) rfl (Held.y_assign rfl rfl) c0_15 ?_
  simp only [Act.put, List.setIfInBounds_toArray, List.set_cons_zero, List.set_cons_succ]
  refine wpAnyH_done (by kernel_rfl) ?_ _
  have dz := bu5.trans (c0_15.mono bu5.size)
  go_wp2_with fail
  go_ret
  exact ⟨rfl, dz⟩

theorem walk (z0 : List Int) (a1 : Int) (ph2 rr2 ad2 at2 ix2 : Int) (a3 : Int) (a4 : Int) (a5 : Int) (a6 : Int) (w : World) (zl0 : z0.length = 32) (zw0 : ∀ z ∈ z0, (Lit.int .u8 z).wf = true) (w1 : (Lit.int .u64 a1).wf = true) (wp2 : (Lit.int .i64 ph2).wf = true) (wr2 : (Lit.int .i64 rr2).wf = true) (wa2 : (Lit.int .i64 ad2).wf = true) (wt2 : (Lit.int .u64 at2).wf = true) (wi2 : (Lit.int .i64 ix2).wf = true) (w3 : (Lit.int .i64 a3).wf = true) (w4 : (Lit.int .u64 a4).wf = true) (w5 : (Lit.int .u64 a5).wf = true) (w6 : (Lit.int .i64 a6).wf = true) (hL : laidMetH Tryd.prog laidList w) :
    Calls Tryd.prog 3 #[.agg (Mem.arr .u8 z0), .int .u64 a1, .agg #[.int .i64 ph2, .int .i64 rr2, .int .i64 ad2, .int .u64 at2, .int .i64 ix2], .int .i64 a3, .int .u64 a4, .int .u64 a5, .int .i64 a6] w fun e w' => e = .returned (.bool true) ∧ Below w.heap.size w w' := by
  obtain ⟨t, rfl⟩ : ∃ t : Nat, at2 = t := ⟨at2.toNat, by have := wf_u64 wt2; omega⟩
  exact start z0 a1 ph2 rr2 ad2 t ix2 a3 a4 a5 a6 w zl0 zw0 w1 wp2 wr2 wa2 wi2 (by have := wf_u64 wt2; omega) w4 w5 (laid_of hL)

set_option maxRecDepth 100000 in
theorem door_met (os : Os) (args : Array Value) : laidMetH Tryd.prog laidList ((World.doorLaid Tryd.prog 400 os).forCall (fun _ _ => 0) ⟨#[], args, []⟩).memory :=
  laidMetH_of_parts3 (fuel := 8) (laidMet_of_run' 8 (by kernel_rfl) (by kernel_rfl)) (by kernel_rfl) (by kernel_rfl)

set_option maxRecDepth 100000 in
theorem lifted (os : Os) (started : os.Started) (H : Type) (enc : TypeId × Value → H) :
    ReturnsInHanded {} Tryd.checked os 3 .any (fun w args => (Rows.keysTellSpec.pre enc Tryd.prog Tryd.f3 [] false w args ∧ laidMetH Tryd.prog laidList w) ∧ sizedMet enc Tryd.prog Tryd.f3 (OpenSpec.ofChange Rows.keysTellSpec) false w args)
      (Rows.keysTellSpec.post enc Tryd.prog Tryd.f3 false true false false) := by
  refine returnsInHanded_of_change_and (C := Tryd.checked) (X := fun w _ => laidMetH Tryd.prog laidList w) (fun _ _ _ hh h => h.of_heap hh) own started (by kernel_rfl) Tryd.func3
    (ChangeSpec.witness_shaped (enc := enc) (C := Tryd.checked) (os := os) (X := fun w _ => laidMetH Tryd.prog laidList w) false (World.doorLaid Tryd.prog 400 os) #[.agg (Array.replicate 32 (.int .u8 0)), .int .u64 0, .agg #[.int .i64 0, .int .i64 0, .int .i64 0, .int .u64 0, .int .i64 0], .int .i64 0, .int .u64 0, .int .u64 0, .int .i64 0] 8 rfl (World.shaped_of_RefB (by kernel_rfl) (by kernel_rfl)) (by kernel_rfl) (by kernel_rfl) (by kernel_rfl) (door_met os _)) ?_
  intro W base args ds gs before hval0 hW _ _ hL _
  have hval : ∀ (j : Nat) t v, Tryd.f3.params[j]? = some t → args[j]? = some v → Value.okWide Tryd.prog W .any base t v := hval0
  have hW' := hW
  obtain ⟨p, q, hA0, hV, rfl, hfz, hnd⟩ := hW
  have hA : DataW.TrodAll enc Tryd.prog W 0 (fun _ => true) true Tryd.f3.params.toList args.toList ds p := hA0
  rw [Tryd.params3] at hA hval
  obtain ⟨v0, vs0, d0, ds0, p0, q0, hargs, rfl, rfl, h0, r0⟩ := trodAll_cons hA
  obtain ⟨v1, vs1, d1, ds1, p1, q1, rfl, rfl, rfl, h1, r1⟩ := trodAll_cons r0
  obtain ⟨v2, vs2, d2, ds2, p2, q2, rfl, rfl, rfl, h2, r2⟩ := trodAll_cons r1
  obtain ⟨v3, vs3, d3, ds3, p3, q3, rfl, rfl, rfl, h3, r3⟩ := trodAll_cons r2
  obtain ⟨v4, vs4, d4, ds4, p4, q4, rfl, rfl, rfl, h4, r4⟩ := trodAll_cons r3
  obtain ⟨v5, vs5, d5, ds5, p5, q5, rfl, rfl, rfl, h5, r5⟩ := trodAll_cons r4
  obtain ⟨v6, vs6, d6, ds6, p6, q6, rfl, rfl, rfl, h6, r6⟩ := trodAll_cons r5
  obtain ⟨rfl, rfl, rfl⟩ := trodAll_nil r6
  obtain rfl : args = #[v0, v1, v2, v3, v4, v5, v6] := by cases args; simp_all
  obtain ⟨rfl, rfl⟩ := trodVars_none hV
  have k0 := h0
  have lt0 : ∀ x ∈ p0, x.block < W.heap.size := by obtain ⟨m, hm⟩ := k0; exact DataW.trod_lt m _ _ _ hm
  obtain ⟨z0, rfl, zl0, zw0⟩ := Mem.open_arr Tryd.underlying22 Tryd.underlying5 (by kernel_rfl) (by kernel_rfl) (hval 0 22 v0 rfl rfl) h0
  obtain ⟨a1, rfl, rfl, rfl, w1⟩ := open_int Tryd.underlying23 (hval 1 23 v1 rfl rfl) h1
  have k2 := h2
  have lt2 : ∀ x ∈ p2, x.block < W.heap.size := by obtain ⟨m, hm⟩ := k2; exact DataW.trod_lt m _ _ _ hm
  obtain ⟨ph2, rr2, ad2, at2, ix2, rfl, wp2, wr2, wa2, wt2, wi2⟩ := Ky.open_place (hval 2 25 v2 rfl rfl) h2
  obtain ⟨a3, rfl, rfl, rfl, w3⟩ := open_int Tryd.underlying3 (hval 3 3 v3 rfl rfl) h3
  obtain ⟨a4, rfl, rfl, rfl, w4⟩ := open_int Tryd.underlying23 (hval 4 23 v4 rfl rfl) h4
  obtain ⟨a5, rfl, rfl, rfl, w5⟩ := open_int Tryd.underlying23 (hval 5 23 v5 rfl rfl) h5
  obtain ⟨a6, rfl, rfl, rfl, w6⟩ := open_int Tryd.underlying3 (hval 6 3 v6 rfl rfl) h6
  clear hA0 hval0
  refine (walk z0 a1 ph2 rr2 ad2 at2 ix2 a3 a4 a5 a6 W zl0 zw0 w1 wp2 wr2 wa2 wt2 wi2 w3 w4 w5 w6 hL).mono fun e W' ⟨he, bel⟩ => ?_
  subst he
  exact ⟨_, rfl, _, _, _, [], _, [], hW', trodAll_mk1 (shut_bool Tryd.underlying4 _), (trodAll_cons_mk (Below.trod laidOut (by kernel_rfl) (of_decide_eq_true (by kernel_rfl)) k0 bel lt0) (trodAll_cons_mk (shut_int Tryd.underlying23 w1) (trodAll_cons_mk (Below.trod laidOut (by kernel_rfl) (of_decide_eq_true (by kernel_rfl)) k2 bel lt2) (trodAll_cons_mk (shut_int Tryd.underlying3 w3) (trodAll_cons_mk (shut_int Tryd.underlying23 w4) (trodAll_cons_mk (shut_int Tryd.underlying23 w5) (trodAll_cons_mk (shut_int Tryd.underlying3 w6) trodAll_mk0))))))), rfl, bel.frame _, fun h => by cases h⟩

theorem over : Rows.keysTellRow.holds Tryd.pinned (OpenSpec.ofChange Rows.keysTellSpec) :=
  OpenClaim.holds_of_wide 3 Tryd.f3 rfl rfl rfl rfl rfl rfl rfl ⟨rfl, rfl, rfl, rfl, rfl⟩ rfl rfl rfl rfl rfl (by kernel_rfl) Tryd.func3 (by kernel_rfl)
    (of_decide_eq_true (by kernel_rfl)) (by unfold Func.isWrapper; first | (rw [if_pos (by decide +kernel)]; kernel_rfl) | (rw [if_neg (by decide +kernel)]; exact ⟨rfl, rfl⟩))
    (fun os started H enc _ => lifted os started H enc)

/-- the statement -/
theorem proved : Rows.KeysTellCardSaid :=
  Claim7.holds_tied_plain_at .later [] [.data, .data, .data, .data, .data] true (true, "fe1dbfda3e658804a55fdba0f4ddfa6429789fc06891c4c7fe71500c74ecefd9") false
    over (fun _ h => by cases h) (by kernel_rfl) (fun _ h => by cases h) keysTell_row_tie rfl ⟨rfl, rfl⟩ (by kernel_rfl) rfl
    (fun f fn hf hfn => by
      obtain rfl : f = 3 := Option.some.inj ((show Tryd.prog.funcNamed "domino/dominolaw08.KeysTell" = some 3 by kernel_rfl).symm.trans hf) |>.symm
      obtain rfl : fn = Tryd.f3 := (Option.some.inj (Tryd.func3.symm.trans hfn)).symm
      exact ⟨by kernel_rfl, fun j t ht => by
        rw [Tryd.params3] at ht
        have hm : t ∈ [22, 23, 25, 3, 23, 23, 3] := by simpa using Array.mem_of_getElem? ht
        have hall : ([22, 23, 25, 3, 23, 23, 3].all fun u => !Tryd.prog.wantsStandIn u) = true := by kernel_rfl
        exact (show Tryd.prog.wantsStandIn t = false by simpa using List.all_eq_true.1 hall t hm)⟩)
    (by kernel_rfl)
#print axioms proved
end Go.Proofs.YtoelgcdjhekafaaDoor.keysTell
