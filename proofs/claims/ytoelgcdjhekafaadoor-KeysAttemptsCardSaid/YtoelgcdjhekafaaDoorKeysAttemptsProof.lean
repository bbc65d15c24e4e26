/-
  The law KeysAttempts of package dominolaw08 returns true for every key, place, attempt and index: attempts and indexes play no part in a place's key; they make its nonce, and its bytes beside are 48. The tables of packages sha, internal/strconv and math/bits hold what the program's text lays (tied); that nothing else writes them is the translator's report.
-/
import Derived.Test.YtoelgcdjhekafaaDoorRows
import Derived.Test.YtoelgcdjhekafaaDoorCards
import Derived.Test.YtoelgcdjhekafaaDoorTie
import Derived.SevenTiedAt
import Derived.WalkKit
import Derived.ProofKit
import Derived.OpenShut
import Derived.ShutString
import Derived.ChangeOld
import Derived.Below
import Derived.LaidMore
import Derived.Stop.Joined
import Derived.Test.YtoelgcdjhekafaaDoorB17
import Derived.Test.YtoelgcdjhekafaaDoorB9
import Derived.Test.YtoelgcdjhekafaaDoorB5
namespace Go.Proofs.YtoelgcdjhekafaaDoor.keysAttempts
open Go.ChangeShapes Go.WideShapes Go.ChangeAt Go.RowKit
open Go.ChangeMaps (open_string shut_string)
open Go.Shelf Go.Proofs.YtoelgcdjhekafaaDoor.Mem Go.Proofs.YtoelgcdjhekafaaDoor.Help Go.Proofs.YtoelgcdjhekafaaDoor.Sum Go.Proofs.YtoelgcdjhekafaaDoor.Sha Go.Proofs.YtoelgcdjhekafaaDoor.Mac Go.Proofs.YtoelgcdjhekafaaDoor.Po Go.Proofs.YtoelgcdjhekafaaDoor.Hkdf Go.Proofs.YtoelgcdjhekafaaDoor.Ky Go.Proofs.YtoelgcdjhekafaaDoor
set_option linter.unusedVariables false

theorem own : ownKnob Tryd.prog.godebug = none := by kernel_rfl
theorem laidOut : laidOutB Tryd.prog = true := by kernel_rfl

/-- what a slice that came in leads to -/
def IsRow (k : IntKind) (w : World) (a : Option Addr) (len cap : Nat) (zs : List Int) : Prop :=
  (a = none ∧ len = 0 ∧ cap = 0 ∧ zs = []) ∨
  ∃ x, a = some x ∧ len ≤ cap ∧ cap ≤ maxLen ∧ zs.length = cap ∧ (∀ i, i < zs.length → w.cell? (x.add i) = some (.int k (zs.getD i 0))) ∧ ∀ n ∈ zs, (Lit.int k n).wf = true

def laidList : List (String × DataW Unit) := [("math/bits.deBruijn32tab", Rows.laid_math_bits_deBruijn32tab), ("math/bits.deBruijn64tab", Rows.laid_math_bits_deBruijn64tab), ("internal/strconv.uint64pow10", Rows.laid_internal_strconv_uint64pow10), ("domino/sha.start", Rows.laid_domino_sha_start), ("domino/sha.words", Rows.laid_domino_sha_words)]

attribute [local irreducible] wpList Calls

set_option maxRecDepth 100000 in
set_option maxHeartbeats 16000000 in
theorem start (jb : List Int) (ph rr ad t ix at_ jx : Int) (u : World) (hj : jb.length = 32) (hjw : ∀ z ∈ jb, (Lit.int .u8 z).wf = true) (hat : (Lit.int .u64 at_).wf = true) (hL0 : Laid u) :
    Calls Tryd.prog 6 #[.agg (arr .u8 jb), .agg #[.int .i64 ph, .int .i64 rr, .int .i64 ad, .int .u64 t, .int .i64 ix], .int .u64 at_, .int .i64 jx] u fun e u' => e = .returned (.bool true) ∧ Below u.heap.size u u' := by
  have HJ := Lib.hid hj
  have HJW := Lib.hid hjw
  clear hj hjw
  go_enter Tryd.func6, Tryd.ntmps6
  go_wp2_with (first
    | (refine wpList_box_Row (w := u) rfl 22 _ rfl .u8 jb rfl HJW.out ?_; intro u1 m1 g1 z1))
  obtain ⟨u5, hu5⟩ : ∃ x, (u1.alloc (.cells #[.int .i64 ph, .int .i64 rr, .int .i64 ad, .int .u64 t, .int .i64 ix] 25)).alloc (.cells #[.int .i64 ph, .int .i64 rr, .int .i64 ad, .int .u64 at_, .int .i64 jx] 25) = x := ⟨_, rfl⟩
  rw [hu5]
  have bu : Below u.heap.size u u5 := by rw [← hu5]; exact (((Below.refl _ u).grown g1 (Nat.le_refl _) (by simp)).alloc g1.size _).alloc (by have := g1.size; simp; omega) _
  have hL : Laid u5 := hL0.below bu
  have m5 : Row u5 u.heap.size 22 .u8 jb := by rw [← hu5]; exact (m1.alloc _).alloc _
  have q1 : u5.heap[u1.heap.size]? = some (.cells #[.int .i64 ph, .int .i64 rr, .int .i64 ad, .int .u64 t, .int .i64 ix] 25 (0, 0)) := by rw [← hu5, Below.heap_alloc _ _ _ (by simp)]; exact heap_alloc_new _ _
  have q2 : u5.heap[u1.heap.size + 1]? = some (.cells #[.int .i64 ph, .int .i64 rr, .int .i64 ad, .int .u64 at_, .int .i64 jx] 25 (0, 0)) := by
    rw [← hu5]
    have := heap_alloc_new (u1.alloc (.cells #[.int .i64 ph, .int .i64 rr, .int .i64 ad, .int .u64 t, .int .i64 ix] 25)) (.cells #[.int .i64 ph, .int .i64 rr, .int .i64 ad, .int .u64 at_, .int .i64 jx] 25)
    simpa using this
  have h1 := (Array.getElem?_eq_some_iff.1 q1).1
  have h2 := (Array.getElem?_eq_some_iff.1 q2).1
  obtain ⟨ga, hga⟩ : ∃ g, u.heap.size = g := ⟨_, rfl⟩
  obtain ⟨gp, hgp⟩ : ∃ g, u1.heap.size = g := ⟨_, rfl⟩
  obtain ⟨gq, hgq⟩ : ∃ g, gp + 1 = g := ⟨_, rfl⟩
  rw [hgp] at q1 q2 h1 h2 ⊢
  rw [hgq] at q2 h2 ⊢
  rw [hga] at m5 ⊢
  have f3 : u5.cell? ⟨gq, 3, none⟩ = some (.int .u64 at_) := by rw [cell_of_row u5 gq 3 _ _ _ q2]; rfl
  have f4 : u5.cell? ⟨gq, 4, none⟩ = some (.int .i64 jx) := by rw [cell_of_row u5 gq 4 _ _ _ q2]; rfl
  have HGA := Lib.hid hga
  clear hga hgp hgq hu5 g1 z1 m1
  refine wp_region_held (S := fun W => Below u5.heap.size u5 W) (by kernel_rfl) ?_
  change wpAnyH _ _ _ _ _ _ _ _ u5.drew
  have c0_0 := (Below.refl u5.heap.size u5).drew
  refine Held.one 0 (by kernel_rfl) ?_
  refine Held.op_call 0 (some 15) 8 #[] rfl rfl rfl rfl (enters_of Tryd.func8 (by kernel_rfl) rfl) (by simp)
    (awake8_any _ (hL.below c0_0)) ?_
  rintro e w1 ⟨rfl, b1⟩
  have c0_1 := c0_0.trans (b1.mono c0_0.size)
  refine ⟨_, rfl, c0_1, ?_⟩
  simp only [Act.put, List.setIfInBounds_toArray, List.set_cons_zero, List.set_cons_succ]
  refine Held.take (v := .bool true) 1 (some 16) rfl rfl (by kernel_rfl) (by kernel_rfl) (by kernel_rfl) (fun _ _ _ h => h) rfl (Held.y_move rfl rfl) c0_1 ?_
  simp only [Act.put, List.setIfInBounds_toArray, List.set_cons_zero, List.set_cons_succ]
  refine Held.take (v := .agg (arr .u8 jb)) 2 (some 17) rfl rfl (by kernel_rfl) (by kernel_rfl) (by kernel_rfl) (fun _ _ _ h => h) rfl (Held.y_load_Row (zs := jb) rfl rfl Tryd.underlying22 info_32 HJ.out (fun W hW => m5.below hW m5.lt)) c0_1 ?_
  simp only [Act.put, List.setIfInBounds_toArray, List.set_cons_zero, List.set_cons_succ]
  refine Held.take (v := .agg #[.int .i64 ph, .int .i64 rr, .int .i64 ad, .int .u64 t, .int .i64 ix]) 3 (some 18) rfl rfl (by kernel_rfl) (by kernel_rfl) (by kernel_rfl) (fun _ _ _ h => h) rfl (y_load_place rfl rfl rfl (fun W hW => (hW.block gp h1).trans q1)) c0_1 ?_
  simp only [Act.put, List.setIfInBounds_toArray, List.set_cons_zero, List.set_cons_succ]
  refine Held.take (v := .agg (arr .u8 jb)) 5 (some 20) rfl rfl (by kernel_rfl) (by kernel_rfl) (by kernel_rfl) (fun _ _ _ h => h) rfl (Held.y_load_Row (zs := jb) rfl rfl Tryd.underlying22 info_32 HJ.out (fun W hW => m5.below hW m5.lt)) c0_1 ?_
  simp only [Act.put, List.setIfInBounds_toArray, List.set_cons_zero, List.set_cons_succ]
  refine Held.take (v := .agg #[.int .i64 ph, .int .i64 rr, .int .i64 ad, .int .u64 at_, .int .i64 jx]) 6 (some 21) rfl rfl (by kernel_rfl) (by kernel_rfl) (by kernel_rfl) (fun _ _ _ h => h) rfl (y_load_place rfl rfl rfl (fun W hW => (hW.block gq h2).trans q2)) c0_1 ?_
  simp only [Act.put, List.setIfInBounds_toArray, List.set_cons_zero, List.set_cons_succ]
  refine Held.one 4 (by kernel_rfl) ?_
  refine Held.op_call 4 (some 19) 10 #[.agg (arr .u8 jb), .agg #[.int .i64 ph, .int .i64 rr, .int .i64 ad, .int .u64 t, .int .i64 ix]] rfl rfl rfl rfl (enters_of Tryd.func10 (by kernel_rfl) rfl) (by simp [Act.eval])
    (place_any jb HJ.out HJW.out ph rr ad t ix _ (hL.below c0_1).start (hL.below c0_1).words) ?_
  rintro e w2 ⟨rfl, b2⟩
  have c0_2 := c0_1.trans (b2.mono c0_1.size)
  refine ⟨_, rfl, c0_2, ?_⟩
  simp only [Act.put, List.setIfInBounds_toArray, List.set_cons_zero, List.set_cons_succ]
  refine Held.one 7 (by kernel_rfl) ?_
  refine Held.op_call 7 (some 22) 10 #[.agg (arr .u8 jb), .agg #[.int .i64 ph, .int .i64 rr, .int .i64 ad, .int .u64 at_, .int .i64 jx]] rfl rfl rfl rfl (enters_of Tryd.func10 (by kernel_rfl) rfl) (by simp [Act.eval])
    (place_any jb HJ.out HJW.out ph rr ad at_ jx _ (hL.below c0_2).start (hL.below c0_2).words) ?_
  rintro e w3 ⟨rfl, b3⟩
  have c0_3 := c0_2.trans (b3.mono c0_2.size)
  refine ⟨_, rfl, c0_3, ?_⟩
  simp only [Act.put, List.setIfInBounds_toArray, List.set_cons_zero, List.set_cons_succ]
  refine Held.take (v := .bool true) 8 (some 23) rfl rfl (by kernel_rfl) (by kernel_rfl) (by kernel_rfl) (fun _ _ _ h => h) rfl (Held.y_eql rfl rfl rfl (by kernel_rfl) Tryd.underlying22 Tryd.underlying5 (by kernel_rfl) (hkey_length _ _ _)) c0_3 ?_
  simp only [Act.put, List.setIfInBounds_toArray, List.set_cons_zero, List.set_cons_succ]
  refine Held.take (v := .bool true) 9 (some 24) rfl rfl (by kernel_rfl) (by kernel_rfl) (by kernel_rfl) (fun _ _ _ h => h) rfl (Held.y_pick rfl rfl rfl) c0_3 ?_
  simp only [Act.put, List.setIfInBounds_toArray, List.set_cons_zero, List.set_cons_succ]
  refine Held.take (v := .bool true) 10 (some 25) rfl rfl (by kernel_rfl) (by kernel_rfl) (by kernel_rfl) (fun _ _ _ h => h) rfl (Held.y_move rfl rfl) c0_3 ?_
  simp only [Act.put, List.setIfInBounds_toArray, List.set_cons_zero, List.set_cons_succ]
  refine Held.take (v := .agg #[.int .i64 ph, .int .i64 rr, .int .i64 ad, .int .u64 at_, .int .i64 jx]) 11 (some 26) rfl rfl (by kernel_rfl) (by kernel_rfl) (by kernel_rfl) (fun _ _ _ h => h) rfl (y_load_place rfl rfl rfl (fun W hW => (hW.block gq h2).trans q2)) c0_3 ?_
  simp only [Act.put, List.setIfInBounds_toArray, List.set_cons_zero, List.set_cons_succ]
  refine Held.one 12 (by kernel_rfl) ?_
  refine Held.op_call 12 (some 27) 19 #[.agg #[.int .i64 ph, .int .i64 rr, .int .i64 ad, .int .u64 at_, .int .i64 jx], .int .i64 5] rfl rfl rfl rfl (enters_of Tryd.func19 (by kernel_rfl) rfl) (by simp [Act.eval])
    (aad_any ph rr ad at_ jx 5 hat _) ?_
  rintro e w4 ⟨AA, nA, cA, rfl, oA, b4⟩
  have c0_4 := c0_3.trans (b4.mono c0_3.size)
  have HNA := Lib.hid (show nA = 48 from oA.caps.1.symm.trans (kAad_length _ _ _ _ _ _))
  clear oA
  refine ⟨_, rfl, c0_4, ?_⟩
  simp only [Act.put, List.setIfInBounds_toArray, List.set_cons_zero, List.set_cons_succ]
  refine Held.take (v := .int .i64 48) 13 (some 28) rfl rfl (by kernel_rfl) (by kernel_rfl) (by kernel_rfl) (fun _ _ _ h => h) rfl (Held.y_len_ rfl rfl Tryd.underlying34 (by have := HNA.out; omega)) c0_4 ?_
  simp only [Act.put, List.setIfInBounds_toArray, List.set_cons_zero, List.set_cons_succ]
  refine Held.take (v := .bool true) 14 (some 29) rfl rfl (by kernel_rfl) (by kernel_rfl) (by kernel_rfl) (fun _ _ _ h => h) rfl (Held.y_eqi rfl rfl rfl) c0_4 ?_
  simp only [Act.put, List.setIfInBounds_toArray, List.set_cons_zero, List.set_cons_succ]
  refine Held.take (v := .bool true) 15 (some 30) rfl rfl (by kernel_rfl) (by kernel_rfl) (by kernel_rfl) (fun _ _ _ h => h) rfl (Held.y_pick rfl rfl rfl) c0_4 ?_
  simp only [Act.put, List.setIfInBounds_toArray, List.set_cons_zero, List.set_cons_succ]
  refine Held.take (v := .bool true) 16 (some 31) rfl rfl (by kernel_rfl) (by kernel_rfl) (by kernel_rfl) (fun _ _ _ h => h) rfl (Held.y_move rfl rfl) c0_4 ?_
  simp only [Act.put, List.setIfInBounds_toArray, List.set_cons_zero, List.set_cons_succ]
  refine Held.take (v := .pointer (some ⟨gq, 3, none⟩)) 17 (some 32) rfl rfl (by kernel_rfl) (by kernel_rfl) (by kernel_rfl) (fun _ _ _ h => h) rfl (y_place (by omega) rfl rfl) c0_4 ?_
  simp only [Act.put, List.setIfInBounds_toArray, List.set_cons_zero, List.set_cons_succ]
  refine Held.take (v := .int .u64 at_) 18 (some 33) rfl rfl (by kernel_rfl) (by kernel_rfl) (by kernel_rfl) (fun _ _ _ h => h) rfl (Held.y_load rfl rfl (by kernel_rfl) (fun W hW => (hW.cell (p := ⟨gq, 3, none⟩) h2).trans f3)) c0_4 ?_
  simp only [Act.put, List.setIfInBounds_toArray, List.set_cons_zero, List.set_cons_succ]
  refine Held.take (v := .pointer (some ⟨gq, 4, none⟩)) 19 (some 34) rfl rfl (by kernel_rfl) (by kernel_rfl) (by kernel_rfl) (fun _ _ _ h => h) rfl (y_place (by omega) rfl rfl) c0_4 ?_
  simp only [Act.put, List.setIfInBounds_toArray, List.set_cons_zero, List.set_cons_succ]
  refine Held.take (v := .int .i64 jx) 20 (some 35) rfl rfl (by kernel_rfl) (by kernel_rfl) (by kernel_rfl) (fun _ _ _ h => h) rfl (Held.y_load rfl rfl (by kernel_rfl) (fun W hW => (hW.cell (p := ⟨gq, 4, none⟩) h2).trans f4)) c0_4 ?_
  simp only [Act.put, List.setIfInBounds_toArray, List.set_cons_zero, List.set_cons_succ]
  refine Held.take (v := .int .u64 at_) 22 (some 37) rfl rfl (by kernel_rfl) (by kernel_rfl) (by kernel_rfl) (fun _ _ _ h => h) rfl (Held.y_move rfl rfl) c0_4 ?_
  simp only [Act.put, List.setIfInBounds_toArray, List.set_cons_zero, List.set_cons_succ]
  refine Held.take (v := .int .i64 jx) 23 (some 38) rfl rfl (by kernel_rfl) (by kernel_rfl) (by kernel_rfl) (fun _ _ _ h => h) rfl (Held.y_move rfl rfl) c0_4 ?_
  simp only [Act.put, List.setIfInBounds_toArray, List.set_cons_zero, List.set_cons_succ]
  refine Held.one 21 (by kernel_rfl) ?_
  refine Held.op_call 21 (some 36) 16 #[.int .u64 at_, .int .i64 jx] rfl rfl rfl rfl (enters_of Tryd.func16 (by kernel_rfl) rfl) (by simp [Act.eval])
    (nonce_any at_ jx hat _) ?_
  rintro e w5 ⟨rfl, b5⟩
  have c0_5 := c0_4.trans (b5.mono c0_4.size)
  refine ⟨_, rfl, c0_5, ?_⟩
  simp only [Act.put, List.setIfInBounds_toArray, List.set_cons_zero, List.set_cons_succ]
  refine Held.one 24 (by kernel_rfl) ?_
  refine Held.op_call 24 (some 39) 17 #[.int .u64 at_, .int .i64 jx] rfl rfl rfl rfl (enters_of Tryd.func17 (by kernel_rfl) rfl) (by simp [Act.eval])
    (rnonce_any at_ jx _) ?_
  rintro e w6 ⟨rfl, b6⟩
  have c0_6 := c0_5.trans (b6.mono c0_5.size)
  refine ⟨_, rfl, c0_6, ?_⟩
  simp only [Act.put, List.setIfInBounds_toArray, List.set_cons_zero, List.set_cons_succ]
  refine Held.take (v := .bool true) 25 (some 40) rfl rfl (by kernel_rfl) (by kernel_rfl) (by kernel_rfl) (fun _ _ _ h => h) rfl (Held.y_eql rfl rfl rfl (by kernel_rfl) Tryd.underlying31 Tryd.underlying5 (by kernel_rfl) (nonce_length _ _)) c0_6 ?_
  simp only [Act.put, List.setIfInBounds_toArray, List.set_cons_zero, List.set_cons_succ]
  refine Held.take (v := .bool true) 26 (some 41) rfl rfl (by kernel_rfl) (by kernel_rfl) (by kernel_rfl) (fun _ _ _ h => h) rfl (Held.y_pick rfl rfl rfl) c0_6 ?_
  simp only [Act.put, List.setIfInBounds_toArray, List.set_cons_zero, List.set_cons_succ]
  refine Held.take (v := .bool true) 27 (some 8) rfl rfl (by kernel_rfl) (by kernel_rfl) (by kernel_rfl) (fun _ _ _ h => h) rfl (Held.y_assign rfl rfl) c0_6 ?_
  simp only [Act.put, List.setIfInBounds_toArray, List.set_cons_zero, List.set_cons_succ]
  refine wpAnyH_done (by kernel_rfl) ?_ _
  have dz := bu.trans (c0_6.mono bu.size)
  go_wp2_with fail
  go_ret
  exact ⟨rfl, dz⟩

theorem walk (z0 : List Int) (ph1 rr1 ad1 at1 ix1 : Int) (a2 : Int) (a3 : Int) (w : World) (zl0 : z0.length = 32) (zw0 : ∀ z ∈ z0, (Lit.int .u8 z).wf = true) (wp1 : (Lit.int .i64 ph1).wf = true) (wr1 : (Lit.int .i64 rr1).wf = true) (wa1 : (Lit.int .i64 ad1).wf = true) (wt1 : (Lit.int .u64 at1).wf = true) (wi1 : (Lit.int .i64 ix1).wf = true) (w2 : (Lit.int .u64 a2).wf = true) (w3 : (Lit.int .i64 a3).wf = true) (hL : laidMetH Tryd.prog laidList w) :
    Calls Tryd.prog 6 #[.agg (Mem.arr .u8 z0), .agg #[.int .i64 ph1, .int .i64 rr1, .int .i64 ad1, .int .u64 at1, .int .i64 ix1], .int .u64 a2, .int .i64 a3] w fun e w' => e = .returned (.bool true) ∧ Below w.heap.size w w' := by
  exact start z0 ph1 rr1 ad1 at1 ix1 a2 a3 w zl0 zw0 w2 (laid_of hL)

set_option maxRecDepth 100000 in
theorem door_met (os : Os) (args : Array Value) : laidMetH Tryd.prog laidList ((World.doorLaid Tryd.prog 400 os).forCall (fun _ _ => 0) ⟨#[], args, []⟩).memory :=
  laidMetH_of_parts3 (fuel := 8) (laidMet_of_run' 8 (by kernel_rfl) (by kernel_rfl)) (by kernel_rfl) (by kernel_rfl)

set_option maxRecDepth 100000 in
theorem lifted (os : Os) (started : os.Started) (H : Type) (enc : TypeId × Value → H) :
    ReturnsInHanded {} Tryd.checked os 6 .any (fun w args => (Rows.keysAttemptsSpec.pre enc Tryd.prog Tryd.f6 [] false w args ∧ laidMetH Tryd.prog laidList w) ∧ sizedMet enc Tryd.prog Tryd.f6 (OpenSpec.ofChange Rows.keysAttemptsSpec) false w args)
      (Rows.keysAttemptsSpec.post enc Tryd.prog Tryd.f6 false true false false) := by
  refine returnsInHanded_of_change_and (C := Tryd.checked) (X := fun w _ => laidMetH Tryd.prog laidList w) (fun _ _ _ hh h => h.of_heap hh) own started (by kernel_rfl) Tryd.func6
    (ChangeSpec.witness_shaped (enc := enc) (C := Tryd.checked) (os := os) (X := fun w _ => laidMetH Tryd.prog laidList w) false (World.doorLaid Tryd.prog 400 os) #[.agg (Array.replicate 32 (.int .u8 0)), .agg #[.int .i64 0, .int .i64 0, .int .i64 0, .int .u64 0, .int .i64 0], .int .u64 0, .int .i64 0] 8 rfl (World.shaped_of_RefB (by kernel_rfl) (by kernel_rfl)) (by kernel_rfl) (by kernel_rfl) (by kernel_rfl) (door_met os _)) ?_
  intro W base args ds gs before hval0 hW _ _ hL _
  have hval : ∀ (j : Nat) t v, Tryd.f6.params[j]? = some t → args[j]? = some v → Value.okWide Tryd.prog W .any base t v := hval0
  have hW' := hW
  obtain ⟨p, q, hA0, hV, rfl, hfz, hnd⟩ := hW
  have hA : DataW.TrodAll enc Tryd.prog W 0 (fun _ => true) true Tryd.f6.params.toList args.toList ds p := hA0
  rw [Tryd.params6] at hA hval
  obtain ⟨v0, vs0, d0, ds0, p0, q0, hargs, rfl, rfl, h0, r0⟩ := trodAll_cons hA
  obtain ⟨v1, vs1, d1, ds1, p1, q1, rfl, rfl, rfl, h1, r1⟩ := trodAll_cons r0
  obtain ⟨v2, vs2, d2, ds2, p2, q2, rfl, rfl, rfl, h2, r2⟩ := trodAll_cons r1
  obtain ⟨v3, vs3, d3, ds3, p3, q3, rfl, rfl, rfl, h3, r3⟩ := trodAll_cons r2
  obtain ⟨rfl, rfl, rfl⟩ := trodAll_nil r3
  obtain rfl : args = #[v0, v1, v2, v3] := by cases args; simp_all
  obtain ⟨rfl, rfl⟩ := trodVars_none hV
  have k0 := h0
  have lt0 : ∀ x ∈ p0, x.block < W.heap.size := by obtain ⟨m, hm⟩ := k0; exact DataW.trod_lt m _ _ _ hm
  obtain ⟨z0, rfl, zl0, zw0⟩ := Mem.open_arr Tryd.underlying22 Tryd.underlying5 (by kernel_rfl) (by kernel_rfl) (hval 0 22 v0 rfl rfl) h0
  have k1 := h1
  have lt1 : ∀ x ∈ p1, x.block < W.heap.size := by obtain ⟨m, hm⟩ := k1; exact DataW.trod_lt m _ _ _ hm
  obtain ⟨ph1, rr1, ad1, at1, ix1, rfl, wp1, wr1, wa1, wt1, wi1⟩ := Ky.open_place (hval 1 25 v1 rfl rfl) h1
  obtain ⟨a2, rfl, rfl, rfl, w2⟩ := open_int Tryd.underlying23 (hval 2 23 v2 rfl rfl) h2
  obtain ⟨a3, rfl, rfl, rfl, w3⟩ := open_int Tryd.underlying3 (hval 3 3 v3 rfl rfl) h3
  clear hA0 hval0
  refine (walk z0 ph1 rr1 ad1 at1 ix1 a2 a3 W zl0 zw0 wp1 wr1 wa1 wt1 wi1 w2 w3 hL).mono fun e W' ⟨he, bel⟩ => ?_
  subst he
  exact ⟨_, rfl, _, _, _, [], _, [], hW', trodAll_mk1 (shut_bool Tryd.underlying4 _), (trodAll_cons_mk (Below.trod laidOut (by kernel_rfl) (of_decide_eq_true (by kernel_rfl)) k0 bel lt0) (trodAll_cons_mk (Below.trod laidOut (by kernel_rfl) (of_decide_eq_true (by kernel_rfl)) k1 bel lt1) (trodAll_cons_mk (shut_int Tryd.underlying23 w2) (trodAll_cons_mk (shut_int Tryd.underlying3 w3) trodAll_mk0)))), rfl, bel.frame _, fun h => by cases h⟩

theorem over : Rows.keysAttemptsRow.holds Tryd.pinned (OpenSpec.ofChange Rows.keysAttemptsSpec) :=
  OpenClaim.holds_of_wide 6 Tryd.f6 rfl rfl rfl rfl rfl rfl rfl ⟨rfl, rfl, rfl, rfl, rfl⟩ rfl rfl rfl rfl rfl (by kernel_rfl) Tryd.func6 (by kernel_rfl)
    (of_decide_eq_true (by kernel_rfl)) (by unfold Func.isWrapper; first | (rw [if_pos (by decide +kernel)]; kernel_rfl) | (rw [if_neg (by decide +kernel)]; exact ⟨rfl, rfl⟩))
    (fun os started H enc _ => lifted os started H enc)

/-- the statement -/
theorem proved : Rows.KeysAttemptsCardSaid :=
  Claim7.holds_tied_plain_at .later [] [.data, .data, .data, .data, .data] true (true, "fe1dbfda3e658804a55fdba0f4ddfa6429789fc06891c4c7fe71500c74ecefd9") false
    over (fun _ h => by cases h) (by kernel_rfl) (fun _ h => by cases h) keysAttempts_row_tie rfl ⟨rfl, rfl⟩ (by kernel_rfl) rfl
    (fun f fn hf hfn => by
      obtain rfl : f = 6 := Option.some.inj ((show Tryd.prog.funcNamed "domino/dominolaw08.KeysAttempts" = some 6 by kernel_rfl).symm.trans hf) |>.symm
      obtain rfl : fn = Tryd.f6 := (Option.some.inj (Tryd.func6.symm.trans hfn)).symm
      exact ⟨by kernel_rfl, fun j t ht => by
        rw [Tryd.params6] at ht
        have hm : t ∈ [22, 25, 23, 3] := by simpa using Array.mem_of_getElem? ht
        have hall : ([22, 25, 23, 3].all fun u => !Tryd.prog.wantsStandIn u) = true := by kernel_rfl
        exact (show Tryd.prog.wantsStandIn t = false by simpa using List.all_eq_true.1 hall t hm)⟩)
    (by kernel_rfl)
#print axioms proved
end Go.Proofs.YtoelgcdjhekafaaDoor.keysAttempts
