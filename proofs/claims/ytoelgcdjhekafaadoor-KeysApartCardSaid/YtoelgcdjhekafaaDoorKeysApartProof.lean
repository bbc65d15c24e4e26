/-
  The law KeysApart of package dominolaw08 returns true for every two places and every two pairs of numbers: unlike places have unlike names and unlike bytes beside; unlike pairs have unlike nonces, the second numbers being cut to 32 bits. The tables of packages sha, internal/strconv and math/bits hold what the program's text lays (tied); that nothing else writes them is the translator's report.
-/
import Derived.Test.YtoelgcdjhekafaaDoorRows
import Derived.Test.YtoelgcdjhekafaaDoorCards
import Derived.Test.YtoelgcdjhekafaaDoorTie
import Derived.SevenTiedAt
import Derived.WalkKit
import Derived.ProofKit
import Derived.OpenShut
import Derived.ShutString
import Derived.ChangeOld
import Derived.Below
import Derived.LaidMore
import Derived.Stop.Joined
import Derived.Test.YtoelgcdjhekafaaDoorB17
import Derived.Test.YtoelgcdjhekafaaDoorB9
import Derived.Test.YtoelgcdjhekafaaDoorB5
namespace Go.Proofs.YtoelgcdjhekafaaDoor.keysApart
open Go.ChangeShapes Go.WideShapes Go.ChangeAt Go.RowKit
open Go.ChangeMaps (open_string shut_string)
open Go.Shelf Go.Proofs.YtoelgcdjhekafaaDoor.Mem Go.Proofs.YtoelgcdjhekafaaDoor.Help Go.Proofs.YtoelgcdjhekafaaDoor.Sum Go.Proofs.YtoelgcdjhekafaaDoor.Sha Go.Proofs.YtoelgcdjhekafaaDoor.Mac Go.Proofs.YtoelgcdjhekafaaDoor.Po Go.Proofs.YtoelgcdjhekafaaDoor.Hkdf Go.Proofs.YtoelgcdjhekafaaDoor.Ky Go.Proofs.YtoelgcdjhekafaaDoor
set_option linter.unusedVariables false

theorem own : ownKnob Tryd.prog.godebug = none := by kernel_rfl
theorem laidOut : laidOutB Tryd.prog = true := by kernel_rfl

/-- what a slice that came in leads to -/
def IsRow (k : IntKind) (w : World) (a : Option Addr) (len cap : Nat) (zs : List Int) : Prop :=
  (a = none ∧ len = 0 ∧ cap = 0 ∧ zs = []) ∨
  ∃ x, a = some x ∧ len ≤ cap ∧ cap ≤ maxLen ∧ zs.length = cap ∧ (∀ i, i < zs.length → w.cell? (x.add i) = some (.int k (zs.getD i 0))) ∧ ∀ n ∈ zs, (Lit.int k n).wf = true

def laidList : List (String × DataW Unit) := [("math/bits.deBruijn32tab", Rows.laid_math_bits_deBruijn32tab), ("math/bits.deBruijn64tab", Rows.laid_math_bits_deBruijn64tab), ("internal/strconv.uint64pow10", Rows.laid_internal_strconv_uint64pow10), ("domino/sha.start", Rows.laid_domino_sha_start), ("domino/sha.words", Rows.laid_domino_sha_words)]

attribute [local irreducible] wpList Calls

theorem bytes_d (B B' : Nat) (A A' : Option Addr) (n n' c c' : Nat) (zs zs' : List Int) (w : World) (h : Ints w .u8 B A n zs) (h' : Ints w .u8 B' A' n' zs') {r : Bool} (hr : decide (zs = zs') = r) :
    Calls Tryd.prog 18 #[.slice A n c, .slice A' n' c'] w fun e w' => e = .returned (.bool r) ∧ Below w.heap.size w w' :=
  (Help.bytes_any B B' A A' n n' c c' zs zs' w h h').mono fun _ _ ⟨h1, h2⟩ => ⟨by rw [h1, hr], h2 ▸ Below.refl _ _⟩

set_option maxRecDepth 100000 in
set_option maxHeartbeats 16000000 in
theorem start_same (ph rr ad : Int) (t : Nat) (ix ph' rr' ad' : Int) (t' : Nat) (ix' a i k : Int) (u : World) (hph : (Lit.int .i64 ph).wf = true) (hrr : (Lit.int .i64 rr).wf = true) (had : (Lit.int .i64 ad).wf = true) (hix : (Lit.int .i64 ix).wf = true) (ht : t < 18446744073709551616) (hph' : (Lit.int .i64 ph').wf = true) (hrr' : (Lit.int .i64 rr').wf = true) (had' : (Lit.int .i64 ad').wf = true) (hix' : (Lit.int .i64 ix').wf = true) (ht' : t' < 18446744073709551616) (ha : (Lit.int .u64 a).wf = true) (hL0 : Laid u) :
    Calls Tryd.prog 4 #[.agg #[.int .i64 ph, .int .i64 rr, .int .i64 ad, .int .u64 (t : Int), .int .i64 ix], .agg #[.int .i64 ph', .int .i64 rr', .int .i64 ad', .int .u64 (t' : Int), .int .i64 ix'], .int .u64 a, .int .u64 a, .int .i64 i, .int .i64 k] u fun e u' => e = .returned (.bool true) ∧ Below u.heap.size u u' := by
  have htw : (Lit.int .u64 (t : Int)).wf = true := wf_64 (by omega)
  have htw' : (Lit.int .u64 (t' : Int)).wf = true := wf_64 (by omega)
  obtain ⟨i1, hi1⟩ : ∃ x, IntKind.u32.wrap i = x := ⟨_, rfl⟩
  obtain ⟨k1, hk1⟩ : ∃ x, IntKind.u32.wrap k = x := ⟨_, rfl⟩
  have bi : 0 ≤ i1 ∧ i1 < 4294967296 := by rw [← hi1, IntKind.wrap_u32]; omega
  have bk : 0 ≤ k1 ∧ k1 < 4294967296 := by rw [← hk1, IntKind.wrap_u32]; omega
  have wi : IntKind.i64.wrap i1 = i1 := by rw [IntKind.wrap_i64]; omega
  have wk : IntKind.i64.wrap k1 = k1 := by rw [IntKind.wrap_i64]; omega
  obtain ⟨bp, hbp⟩ : ∃ x, decide (ph = ph' ∧ rr = rr' ∧ ad = ad' ∧ (t : Int) = (t' : Int) ∧ ix = ix') = x := ⟨_, rfl⟩
  have HNM := Lib.hid ((nameU_eq ph rr ad t ix ph' rr' ad' t' ix').trans hbp)
  have HAA := Lib.hid ((kAad_eq ph rr ad t ix ph' rr' ad' t' ix' 1 (i64_of hph) (i64_of hrr) (i64_of had) htw (i64_of hix) (i64_of hph') (i64_of hrr') (i64_of had') htw' (i64_of hix')).trans hbp)
  have HBP := Lib.hid hbp
  obtain ⟨bz, hbz⟩ : ∃ x, decide (i1 = k1) = x := ⟨_, rfl⟩
  have HNO := Lib.hid (show decide (nonce a i1 = nonce a k1) = bz by rw [nonce_eq a a i1 k1 ha ha bi bk, ← hbz]; simp)
  have HBZ := Lib.hid hbz
  clear hbz
  go_enter Tryd.func4, Tryd.ntmps4
  clear hbp
  go_wp2_with (first
    | (refine wpList_box_place (w := u) rfl _ rfl #[.int .i64 ph, .int .i64 rr, .int .i64 ad, .int .u64 (t : Int), .int .i64 ix] rfl rfl ?_; intro u1 q1 g1)
    | (refine wpList_box_place (w := u1) rfl _ rfl #[.int .i64 ph', .int .i64 rr', .int .i64 ad', .int .u64 (t' : Int), .int .i64 ix'] rfl rfl ?_; intro u2 q2 g2))
  have bu : Below u.heap.size u u2 := ((Below.refl _ u).grown g1 (Nat.le_refl _) (by simp)).grown g2 g1.size (by simp)
  have hL : Laid u2 := hL0.below bu
  have q1 := Held.keep_cells q1 g2 (by simp)
  have h1 := (Array.getElem?_eq_some_iff.1 q1).1
  have h2 := (Array.getElem?_eq_some_iff.1 q2).1
  obtain ⟨gp, hgp⟩ : ∃ g, u.heap.size = g := ⟨_, rfl⟩
  obtain ⟨gq, hgq⟩ : ∃ g, u1.heap.size = g := ⟨_, rfl⟩
  rw [hgp] at q1 h1 ⊢
  rw [hgq] at q2 h2 ⊢
  have HGP := Lib.hid hgp
  clear hgp hgq g1 g2
  refine wp_region_held (S := fun W => Below u2.heap.size u2 W) (by kernel_rfl) ?_
  change wpAnyH _ _ _ _ _ _ _ _ u2.drew
  have c0_0 := (Below.refl u2.heap.size u2).drew
  refine Held.one 0 (by kernel_rfl) ?_
  refine Held.op_call 0 (some 19) 8 #[] rfl rfl rfl rfl (enters_of Tryd.func8 (by kernel_rfl) rfl) (by simp)
    (awake8_any _ (hL.below c0_0)) ?_
  rintro e w1 ⟨rfl, b1⟩
  have c0_1 := c0_0.trans (b1.mono c0_0.size)
  refine ⟨_, rfl, c0_1, ?_⟩
  simp only [Act.put, List.setIfInBounds_toArray, List.set_cons_zero, List.set_cons_succ]
  refine Held.take (v := .bool true) 1 (some 20) rfl rfl (by kernel_rfl) (by kernel_rfl) (by kernel_rfl) (fun _ _ _ h => h) rfl (Held.y_move rfl rfl) c0_1 ?_
  simp only [Act.put, List.setIfInBounds_toArray, List.set_cons_zero, List.set_cons_succ]
  refine Held.take (v := .agg #[.int .i64 ph, .int .i64 rr, .int .i64 ad, .int .u64 (t : Int), .int .i64 ix]) 2 (some 21) rfl rfl (by kernel_rfl) (by kernel_rfl) (by kernel_rfl) (fun _ _ _ h => h) rfl (y_load_place rfl rfl rfl (fun W hW => (hW.block gp h1).trans q1)) c0_1 ?_
  simp only [Act.put, List.setIfInBounds_toArray, List.set_cons_zero, List.set_cons_succ]
  refine Held.take (v := .agg #[.int .i64 ph', .int .i64 rr', .int .i64 ad', .int .u64 (t' : Int), .int .i64 ix']) 4 (some 23) rfl rfl (by kernel_rfl) (by kernel_rfl) (by kernel_rfl) (fun _ _ _ h => h) rfl (y_load_place rfl rfl rfl (fun W hW => (hW.block gq h2).trans q2)) c0_1 ?_
  simp only [Act.put, List.setIfInBounds_toArray, List.set_cons_zero, List.set_cons_succ]
  refine Held.take (v := .agg #[.int .i64 ph, .int .i64 rr, .int .i64 ad, .int .u64 (t : Int), .int .i64 ix]) 7 (some 26) rfl rfl (by kernel_rfl) (by kernel_rfl) (by kernel_rfl) (fun _ _ _ h => h) rfl (y_load_place rfl rfl rfl (fun W hW => (hW.block gp h1).trans q1)) c0_1 ?_
  simp only [Act.put, List.setIfInBounds_toArray, List.set_cons_zero, List.set_cons_succ]
  refine Held.take (v := .agg #[.int .i64 ph', .int .i64 rr', .int .i64 ad', .int .u64 (t' : Int), .int .i64 ix']) 8 (some 27) rfl rfl (by kernel_rfl) (by kernel_rfl) (by kernel_rfl) (fun _ _ _ h => h) rfl (y_load_place rfl rfl rfl (fun W hW => (hW.block gq h2).trans q2)) c0_1 ?_
  simp only [Act.put, List.setIfInBounds_toArray, List.set_cons_zero, List.set_cons_succ]
  refine Held.take (v := .bool bp) 9 (some 28) rfl rfl (by kernel_rfl) (by kernel_rfl) (by kernel_rfl) (fun _ _ _ h => h) rfl (y_eqp rfl rfl rfl HBP.out) c0_1 ?_
  simp only [Act.put, List.setIfInBounds_toArray, List.set_cons_zero, List.set_cons_succ]
  refine Held.one 3 (by kernel_rfl) ?_
  refine Held.op_call 3 (some 22) 21 #[.agg #[.int .i64 ph, .int .i64 rr, .int .i64 ad, .int .u64 (t : Int), .int .i64 ix]] rfl rfl rfl rfl (enters_of Tryd.func21 (by kernel_rfl) rfl) (by simp [Act.eval])
    (name_any ph rr ad t ix (i64_of hph) (i64_of hrr) (i64_of had) ht (i64_of hix) _ (hL.below c0_1).pow) ?_
  rintro e w2 ⟨rfl, b2⟩
  have c0_2 := c0_1.trans (b2.mono c0_1.size)
  refine ⟨_, rfl, c0_2, ?_⟩
  simp only [Act.put, List.setIfInBounds_toArray, List.set_cons_zero, List.set_cons_succ]
  refine Held.one 5 (by kernel_rfl) ?_
  refine Held.op_call 5 (some 24) 21 #[.agg #[.int .i64 ph', .int .i64 rr', .int .i64 ad', .int .u64 (t' : Int), .int .i64 ix']] rfl rfl rfl rfl (enters_of Tryd.func21 (by kernel_rfl) rfl) (by simp [Act.eval])
    (name_any ph' rr' ad' t' ix' (i64_of hph') (i64_of hrr') (i64_of had') ht' (i64_of hix') _ (hL.below c0_2).pow) ?_
  rintro e w3 ⟨rfl, b3⟩
  have c0_3 := c0_2.trans (b3.mono c0_2.size)
  refine ⟨_, rfl, c0_3, ?_⟩
  simp only [Act.put, List.setIfInBounds_toArray, List.set_cons_zero, List.set_cons_succ]
  refine Held.take (v := .bool bp) 6 (some 25) rfl rfl (by kernel_rfl) (by kernel_rfl) (by kernel_rfl) (fun _ _ _ h => h) rfl (y_eqsd rfl rfl rfl HNM.out) c0_3 ?_
  simp only [Act.put, List.setIfInBounds_toArray, List.set_cons_zero, List.set_cons_succ]
  refine Held.take (v := .bool true) 10 (some 29) rfl rfl (by kernel_rfl) (by kernel_rfl) (by kernel_rfl) (fun _ _ _ h => h) rfl (Held.y_eqb rfl rfl rfl (by simp) Tryd.underlying4) c0_3 ?_
  simp only [Act.put, List.setIfInBounds_toArray, List.set_cons_zero, List.set_cons_succ]
  refine Held.take (v := .bool true) 11 (some 30) rfl rfl (by kernel_rfl) (by kernel_rfl) (by kernel_rfl) (fun _ _ _ h => h) rfl (Held.y_pick rfl rfl rfl) c0_3 ?_
  simp only [Act.put, List.setIfInBounds_toArray, List.set_cons_zero, List.set_cons_succ]
  refine Held.take (v := .bool true) 12 (some 31) rfl rfl (by kernel_rfl) (by kernel_rfl) (by kernel_rfl) (fun _ _ _ h => h) rfl (Held.y_move rfl rfl) c0_3 ?_
  simp only [Act.put, List.setIfInBounds_toArray, List.set_cons_zero, List.set_cons_succ]
  refine Held.take (v := .agg #[.int .i64 ph, .int .i64 rr, .int .i64 ad, .int .u64 (t : Int), .int .i64 ix]) 13 (some 32) rfl rfl (by kernel_rfl) (by kernel_rfl) (by kernel_rfl) (fun _ _ _ h => h) rfl (y_load_place rfl rfl rfl (fun W hW => (hW.block gp h1).trans q1)) c0_3 ?_
  simp only [Act.put, List.setIfInBounds_toArray, List.set_cons_zero, List.set_cons_succ]
  refine Held.take (v := .agg #[.int .i64 ph', .int .i64 rr', .int .i64 ad', .int .u64 (t' : Int), .int .i64 ix']) 15 (some 34) rfl rfl (by kernel_rfl) (by kernel_rfl) (by kernel_rfl) (fun _ _ _ h => h) rfl (y_load_place rfl rfl rfl (fun W hW => (hW.block gq h2).trans q2)) c0_3 ?_
  simp only [Act.put, List.setIfInBounds_toArray, List.set_cons_zero, List.set_cons_succ]
  refine Held.take (v := .agg #[.int .i64 ph, .int .i64 rr, .int .i64 ad, .int .u64 (t : Int), .int .i64 ix]) 18 (some 37) rfl rfl (by kernel_rfl) (by kernel_rfl) (by kernel_rfl) (fun _ _ _ h => h) rfl (y_load_place rfl rfl rfl (fun W hW => (hW.block gp h1).trans q1)) c0_3 ?_
  simp only [Act.put, List.setIfInBounds_toArray, List.set_cons_zero, List.set_cons_succ]
  refine Held.take (v := .agg #[.int .i64 ph', .int .i64 rr', .int .i64 ad', .int .u64 (t' : Int), .int .i64 ix']) 19 (some 38) rfl rfl (by kernel_rfl) (by kernel_rfl) (by kernel_rfl) (fun _ _ _ h => h) rfl (y_load_place rfl rfl rfl (fun W hW => (hW.block gq h2).trans q2)) c0_3 ?_
  simp only [Act.put, List.setIfInBounds_toArray, List.set_cons_zero, List.set_cons_succ]
  refine Held.take (v := .bool bp) 20 (some 39) rfl rfl (by kernel_rfl) (by kernel_rfl) (by kernel_rfl) (fun _ _ _ h => h) rfl (y_eqp rfl rfl rfl HBP.out) c0_3 ?_
  simp only [Act.put, List.setIfInBounds_toArray, List.set_cons_zero, List.set_cons_succ]
  refine Held.one 14 (by kernel_rfl) ?_
  refine Held.op_call 14 (some 33) 19 #[.agg #[.int .i64 ph, .int .i64 rr, .int .i64 ad, .int .u64 (t : Int), .int .i64 ix], .int .i64 1] rfl rfl rfl rfl (enters_of Tryd.func19 (by kernel_rfl) rfl) (by simp [Act.eval])
    (aad_any ph rr ad (t : Int) ix 1 htw _) ?_
  rintro e w4 ⟨AA, nA, cA, rfl, oA, b4⟩
  have c0_4 := c0_3.trans (b4.mono c0_3.size)
  refine ⟨_, rfl, c0_4, ?_⟩
  simp only [Act.put, List.setIfInBounds_toArray, List.set_cons_zero, List.set_cons_succ]
  refine Held.one 16 (by kernel_rfl) ?_
  refine Held.op_call 16 (some 35) 19 #[.agg #[.int .i64 ph', .int .i64 rr', .int .i64 ad', .int .u64 (t' : Int), .int .i64 ix'], .int .i64 1] rfl rfl rfl rfl (enters_of Tryd.func19 (by kernel_rfl) rfl) (by simp [Act.eval])
    (aad_any ph' rr' ad' (t' : Int) ix' 1 htw' _) ?_
  rintro e w5 ⟨AB, nB, cB, rfl, oB, b5⟩
  have c0_5 := c0_4.trans (b5.mono c0_4.size)
  have oA := oA.below b5
  refine ⟨_, rfl, c0_5, ?_⟩
  simp only [Act.put, List.setIfInBounds_toArray, List.set_cons_zero, List.set_cons_succ]
  refine Held.one 17 (by kernel_rfl) ?_
  refine Held.op_call 17 (some 36) 18 #[.slice AA nA cA, .slice AB nB cB] rfl rfl rfl rfl (enters_of Tryd.func18 (by kernel_rfl) rfl) (by simp [Act.eval])
    (bytes_d _ _ _ _ _ _ _ _ _ _ _ (oA.ints oA.caps.1) (oB.ints oB.caps.1) HAA.out) ?_
  rintro e w6 ⟨rfl, b6⟩
  have c0_6 := c0_5.trans (b6.mono c0_5.size)
  clear oA oB
  refine ⟨_, rfl, c0_6, ?_⟩
  simp only [Act.put, List.setIfInBounds_toArray, List.set_cons_zero, List.set_cons_succ]
  refine Held.take (v := .bool true) 21 (some 40) rfl rfl (by kernel_rfl) (by kernel_rfl) (by kernel_rfl) (fun _ _ _ h => h) rfl (Held.y_eqb rfl rfl rfl (by simp) Tryd.underlying4) c0_6 ?_
  simp only [Act.put, List.setIfInBounds_toArray, List.set_cons_zero, List.set_cons_succ]
  refine Held.take (v := .bool true) 22 (some 41) rfl rfl (by kernel_rfl) (by kernel_rfl) (by kernel_rfl) (fun _ _ _ h => h) rfl (Held.y_pick rfl rfl rfl) c0_6 ?_
  simp only [Act.put, List.setIfInBounds_toArray, List.set_cons_zero, List.set_cons_succ]
  refine Held.take (v := .bool true) 23 (some 42) rfl rfl (by kernel_rfl) (by kernel_rfl) (by kernel_rfl) (fun _ _ _ h => h) rfl (Held.y_move rfl rfl) c0_6 ?_
  simp only [Act.put, List.setIfInBounds_toArray, List.set_cons_zero, List.set_cons_succ]
  refine Held.take (v := .int .u64 a) 24 (some 43) rfl rfl (by kernel_rfl) (by kernel_rfl) (by kernel_rfl) (fun _ _ _ h => h) rfl (Held.y_move rfl rfl) c0_6 ?_
  simp only [Act.put, List.setIfInBounds_toArray, List.set_cons_zero, List.set_cons_succ]
  refine Held.take (v := .int .i64 i1) 25 (some 44) rfl rfl (by kernel_rfl) (by kernel_rfl) (by kernel_rfl) (fun _ _ _ h => h) rfl (Held.y_move rfl rfl) c0_6 ?_
  simp only [Act.put, List.setIfInBounds_toArray, List.set_cons_zero, List.set_cons_succ]
  refine Held.take (v := .int .u64 a) 27 (some 46) rfl rfl (by kernel_rfl) (by kernel_rfl) (by kernel_rfl) (fun _ _ _ h => h) rfl (Held.y_move rfl rfl) c0_6 ?_
  simp only [Act.put, List.setIfInBounds_toArray, List.set_cons_zero, List.set_cons_succ]
  refine Held.take (v := .int .i64 k1) 28 (some 47) rfl rfl (by kernel_rfl) (by kernel_rfl) (by kernel_rfl) (fun _ _ _ h => h) rfl (Held.y_move rfl rfl) c0_6 ?_
  simp only [Act.put, List.setIfInBounds_toArray, List.set_cons_zero, List.set_cons_succ]
  refine Held.take (v := .int .u64 a) 31 (some 50) rfl rfl (by kernel_rfl) (by kernel_rfl) (by kernel_rfl) (fun _ _ _ h => h) rfl (Held.y_move rfl rfl) c0_6 ?_
  simp only [Act.put, List.setIfInBounds_toArray, List.set_cons_zero, List.set_cons_succ]
  refine Held.take (v := .int .u64 a) 32 (some 51) rfl rfl (by kernel_rfl) (by kernel_rfl) (by kernel_rfl) (fun _ _ _ h => h) rfl (Held.y_move rfl rfl) c0_6 ?_
  simp only [Act.put, List.setIfInBounds_toArray, List.set_cons_zero, List.set_cons_succ]
  refine Held.take (v := .bool true) 33 (some 52) rfl rfl (by kernel_rfl) (by kernel_rfl) (by kernel_rfl) (fun _ _ _ h => h) rfl (y_eqid rfl rfl rfl (by simp)) c0_6 ?_
  simp only [Act.put, List.setIfInBounds_toArray, List.set_cons_zero, List.set_cons_succ]
  refine Held.one 26 (by kernel_rfl) ?_
  refine Held.op_call 26 (some 45) 16 #[.int .u64 a, .int .i64 i1] rfl rfl rfl rfl (enters_of Tryd.func16 (by kernel_rfl) rfl) (by simp [Act.eval])
    (nonce_any a i1 ha _) ?_
  rintro e w7 ⟨rfl, b7⟩
  have c0_7 := c0_6.trans (b7.mono c0_6.size)
  refine ⟨_, rfl, c0_7, ?_⟩
  simp only [Act.put, List.setIfInBounds_toArray, List.set_cons_zero, List.set_cons_succ]
  refine Held.one 29 (by kernel_rfl) ?_
  refine Held.op_call 29 (some 48) 16 #[.int .u64 a, .int .i64 k1] rfl rfl rfl rfl (enters_of Tryd.func16 (by kernel_rfl) rfl) (by simp [Act.eval])
    (nonce_any a k1 ha _) ?_
  rintro e w8 ⟨rfl, b8⟩
  have c0_8 := c0_7.trans (b8.mono c0_7.size)
  refine ⟨_, rfl, c0_8, ?_⟩
  simp only [Act.put, List.setIfInBounds_toArray, List.set_cons_zero, List.set_cons_succ]
  refine Held.take (v := .bool bz) 30 (some 49) rfl rfl (by kernel_rfl) (by kernel_rfl) (by kernel_rfl) (fun _ _ _ h => h) rfl (y_eqa rfl rfl rfl HNO.out (by kernel_rfl) Tryd.underlying31 Tryd.underlying5 (by kernel_rfl) (nonce_length _ _) (nonce_length _ _)) c0_8 ?_
  simp only [Act.put, List.setIfInBounds_toArray, List.set_cons_zero, List.set_cons_succ]
  refine Held.take (v := .bool true) 34 (some 53) rfl rfl (by kernel_rfl) (by kernel_rfl) (by kernel_rfl) (fun _ _ _ h => h) rfl (Held.y_move rfl rfl) c0_8 ?_
  simp only [Act.put, List.setIfInBounds_toArray, List.set_cons_zero, List.set_cons_succ]
  refine Held.take (v := .int .i64 i1) 35 (some 54) rfl rfl (by kernel_rfl) (by kernel_rfl) (by kernel_rfl) (fun _ _ _ h => h) rfl (Held.y_move rfl rfl) c0_8 ?_
  simp only [Act.put, List.setIfInBounds_toArray, List.set_cons_zero, List.set_cons_succ]
  refine Held.take (v := .int .i64 k1) 36 (some 55) rfl rfl (by kernel_rfl) (by kernel_rfl) (by kernel_rfl) (fun _ _ _ h => h) rfl (Held.y_move rfl rfl) c0_8 ?_
  simp only [Act.put, List.setIfInBounds_toArray, List.set_cons_zero, List.set_cons_succ]
  refine Held.take (v := .bool bz) 37 (some 56) rfl rfl (by kernel_rfl) (by kernel_rfl) (by kernel_rfl) (fun _ _ _ h => h) rfl (y_eqid rfl rfl rfl HBZ.out) c0_8 ?_
  simp only [Act.put, List.setIfInBounds_toArray, List.set_cons_zero, List.set_cons_succ]
  refine Held.take (v := .bool bz) 38 (some 57) rfl rfl (by kernel_rfl) (by kernel_rfl) (by kernel_rfl) (fun _ _ _ h => h) rfl (Held.y_pick rfl rfl rfl) c0_8 ?_
  simp only [Act.put, List.setIfInBounds_toArray, List.set_cons_zero, List.set_cons_succ]
  refine Held.take (v := .bool true) 39 (some 58) rfl rfl (by kernel_rfl) (by kernel_rfl) (by kernel_rfl) (fun _ _ _ h => h) rfl (Held.y_eqb rfl rfl rfl (by simp) Tryd.underlying4) c0_8 ?_
  simp only [Act.put, List.setIfInBounds_toArray, List.set_cons_zero, List.set_cons_succ]
  refine Held.take (v := .bool true) 40 (some 59) rfl rfl (by kernel_rfl) (by kernel_rfl) (by kernel_rfl) (fun _ _ _ h => h) rfl (Held.y_pick rfl rfl rfl) c0_8 ?_
  simp only [Act.put, List.setIfInBounds_toArray, List.set_cons_zero, List.set_cons_succ]
  refine Held.take (v := .bool true) 41 (some 12) rfl rfl (by kernel_rfl) (by kernel_rfl) (by kernel_rfl) (fun _ _ _ h => h) rfl (Held.y_assign rfl rfl) c0_8 ?_
  simp only [Act.put, List.setIfInBounds_toArray, List.set_cons_zero, List.set_cons_succ]
  refine wpAnyH_done (by kernel_rfl) ?_ _
  have dz := bu.trans (c0_8.mono bu.size)
  go_wp2_with fail
  go_ret
  exact ⟨rfl, dz⟩

set_option maxRecDepth 100000 in
set_option maxHeartbeats 16000000 in
theorem start_other (ph rr ad : Int) (t : Nat) (ix ph' rr' ad' : Int) (t' : Nat) (ix' a b i k : Int) (u : World) (hph : (Lit.int .i64 ph).wf = true) (hrr : (Lit.int .i64 rr).wf = true) (had : (Lit.int .i64 ad).wf = true) (hix : (Lit.int .i64 ix).wf = true) (ht : t < 18446744073709551616) (hph' : (Lit.int .i64 ph').wf = true) (hrr' : (Lit.int .i64 rr').wf = true) (had' : (Lit.int .i64 ad').wf = true) (hix' : (Lit.int .i64 ix').wf = true) (ht' : t' < 18446744073709551616) (ha : (Lit.int .u64 a).wf = true) (hb : (Lit.int .u64 b).wf = true) (hab : a ≠ b) (hL0 : Laid u) :
    Calls Tryd.prog 4 #[.agg #[.int .i64 ph, .int .i64 rr, .int .i64 ad, .int .u64 (t : Int), .int .i64 ix], .agg #[.int .i64 ph', .int .i64 rr', .int .i64 ad', .int .u64 (t' : Int), .int .i64 ix'], .int .u64 a, .int .u64 b, .int .i64 i, .int .i64 k] u fun e u' => e = .returned (.bool true) ∧ Below u.heap.size u u' := by
  have htw : (Lit.int .u64 (t : Int)).wf = true := wf_64 (by omega)
  have htw' : (Lit.int .u64 (t' : Int)).wf = true := wf_64 (by omega)
  obtain ⟨i1, hi1⟩ : ∃ x, IntKind.u32.wrap i = x := ⟨_, rfl⟩
  obtain ⟨k1, hk1⟩ : ∃ x, IntKind.u32.wrap k = x := ⟨_, rfl⟩
  have bi : 0 ≤ i1 ∧ i1 < 4294967296 := by rw [← hi1, IntKind.wrap_u32]; omega
  have bk : 0 ≤ k1 ∧ k1 < 4294967296 := by rw [← hk1, IntKind.wrap_u32]; omega
  have wi : IntKind.i64.wrap i1 = i1 := by rw [IntKind.wrap_i64]; omega
  have wk : IntKind.i64.wrap k1 = k1 := by rw [IntKind.wrap_i64]; omega
  obtain ⟨bp, hbp⟩ : ∃ x, decide (ph = ph' ∧ rr = rr' ∧ ad = ad' ∧ (t : Int) = (t' : Int) ∧ ix = ix') = x := ⟨_, rfl⟩
  have HNM := Lib.hid ((nameU_eq ph rr ad t ix ph' rr' ad' t' ix').trans hbp)
  have HAA := Lib.hid ((kAad_eq ph rr ad t ix ph' rr' ad' t' ix' 1 (i64_of hph) (i64_of hrr) (i64_of had) htw (i64_of hix) (i64_of hph') (i64_of hrr') (i64_of had') htw' (i64_of hix')).trans hbp)
  have HBP := Lib.hid hbp
  have HNO := Lib.hid (show decide (nonce a i1 = nonce b k1) = false by rw [nonce_eq a b i1 k1 ha hb bi bk]; simp [hab])
  have HAB := Lib.hid (show decide (a = b) = false by simp [hab])
  clear hab
  go_enter Tryd.func4, Tryd.ntmps4
  clear hbp
  go_wp2_with (first
    | (refine wpList_box_place (w := u) rfl _ rfl #[.int .i64 ph, .int .i64 rr, .int .i64 ad, .int .u64 (t : Int), .int .i64 ix] rfl rfl ?_; intro u1 q1 g1)
    | (refine wpList_box_place (w := u1) rfl _ rfl #[.int .i64 ph', .int .i64 rr', .int .i64 ad', .int .u64 (t' : Int), .int .i64 ix'] rfl rfl ?_; intro u2 q2 g2))
  have bu : Below u.heap.size u u2 := ((Below.refl _ u).grown g1 (Nat.le_refl _) (by simp)).grown g2 g1.size (by simp)
  have hL : Laid u2 := hL0.below bu
  have q1 := Held.keep_cells q1 g2 (by simp)
  have h1 := (Array.getElem?_eq_some_iff.1 q1).1
  have h2 := (Array.getElem?_eq_some_iff.1 q2).1
  obtain ⟨gp, hgp⟩ : ∃ g, u.heap.size = g := ⟨_, rfl⟩
  obtain ⟨gq, hgq⟩ : ∃ g, u1.heap.size = g := ⟨_, rfl⟩
  rw [hgp] at q1 h1 ⊢
  rw [hgq] at q2 h2 ⊢
  have HGP := Lib.hid hgp
  clear hgp hgq g1 g2
  refine wp_region_held (S := fun W => Below u2.heap.size u2 W) (by kernel_rfl) ?_
  change wpAnyH _ _ _ _ _ _ _ _ u2.drew
  have c0_0 := (Below.refl u2.heap.size u2).drew
  refine Held.one 0 (by kernel_rfl) ?_
  refine Held.op_call 0 (some 19) 8 #[] rfl rfl rfl rfl (enters_of Tryd.func8 (by kernel_rfl) rfl) (by simp)
    (awake8_any _ (hL.below c0_0)) ?_
  rintro e w1 ⟨rfl, b1⟩
  have c0_1 := c0_0.trans (b1.mono c0_0.size)
  refine ⟨_, rfl, c0_1, ?_⟩
  simp only [Act.put, List.setIfInBounds_toArray, List.set_cons_zero, List.set_cons_succ]
  refine Held.take (v := .bool true) 1 (some 20) rfl rfl (by kernel_rfl) (by kernel_rfl) (by kernel_rfl) (fun _ _ _ h => h) rfl (Held.y_move rfl rfl) c0_1 ?_
  simp only [Act.put, List.setIfInBounds_toArray, List.set_cons_zero, List.set_cons_succ]
  refine Held.take (v := .agg #[.int .i64 ph, .int .i64 rr, .int .i64 ad, .int .u64 (t : Int), .int .i64 ix]) 2 (some 21) rfl rfl (by kernel_rfl) (by kernel_rfl) (by kernel_rfl) (fun _ _ _ h => h) rfl (y_load_place rfl rfl rfl (fun W hW => (hW.block gp h1).trans q1)) c0_1 ?_
  simp only [Act.put, List.setIfInBounds_toArray, List.set_cons_zero, List.set_cons_succ]
  refine Held.take (v := .agg #[.int .i64 ph', .int .i64 rr', .int .i64 ad', .int .u64 (t' : Int), .int .i64 ix']) 4 (some 23) rfl rfl (by kernel_rfl) (by kernel_rfl) (by kernel_rfl) (fun _ _ _ h => h) rfl (y_load_place rfl rfl rfl (fun W hW => (hW.block gq h2).trans q2)) c0_1 ?_
  simp only [Act.put, List.setIfInBounds_toArray, List.set_cons_zero, List.set_cons_succ]
  refine Held.take (v := .agg #[.int .i64 ph, .int .i64 rr, .int .i64 ad, .int .u64 (t : Int), .int .i64 ix]) 7 (some 26) rfl rfl (by kernel_rfl) (by kernel_rfl) (by kernel_rfl) (fun _ _ _ h => h) rfl (y_load_place rfl rfl rfl (fun W hW => (hW.block gp h1).trans q1)) c0_1 ?_
  simp only [Act.put, List.setIfInBounds_toArray, List.set_cons_zero, List.set_cons_succ]
  refine Held.take (v := .agg #[.int .i64 ph', .int .i64 rr', .int .i64 ad', .int .u64 (t' : Int), .int .i64 ix']) 8 (some 27) rfl rfl (by kernel_rfl) (by kernel_rfl) (by kernel_rfl) (fun _ _ _ h => h) rfl (y_load_place rfl rfl rfl (fun W hW => (hW.block gq h2).trans q2)) c0_1 ?_
  simp only [Act.put, List.setIfInBounds_toArray, List.set_cons_zero, List.set_cons_succ]
  refine Held.take (v := .bool bp) 9 (some 28) rfl rfl (by kernel_rfl) (by kernel_rfl) (by kernel_rfl) (fun _ _ _ h => h) rfl (y_eqp rfl rfl rfl HBP.out) c0_1 ?_
  simp only [Act.put, List.setIfInBounds_toArray, List.set_cons_zero, List.set_cons_succ]
  refine Held.one 3 (by kernel_rfl) ?_
  refine Held.op_call 3 (some 22) 21 #[.agg #[.int .i64 ph, .int .i64 rr, .int .i64 ad, .int .u64 (t : Int), .int .i64 ix]] rfl rfl rfl rfl (enters_of Tryd.func21 (by kernel_rfl) rfl) (by simp [Act.eval])
    (name_any ph rr ad t ix (i64_of hph) (i64_of hrr) (i64_of had) ht (i64_of hix) _ (hL.below c0_1).pow) ?_
  rintro e w2 ⟨rfl, b2⟩
  have c0_2 := c0_1.trans (b2.mono c0_1.size)
  refine ⟨_, rfl, c0_2, ?_⟩
  simp only [Act.put, List.setIfInBounds_toArray, List.set_cons_zero, List.set_cons_succ]
  refine Held.one 5 (by kernel_rfl) ?_
  refine Held.op_call 5 (some 24) 21 #[.agg #[.int .i64 ph', .int .i64 rr', .int .i64 ad', .int .u64 (t' : Int), .int .i64 ix']] rfl rfl rfl rfl (enters_of Tryd.func21 (by kernel_rfl) rfl) (by simp [Act.eval])
    (name_any ph' rr' ad' t' ix' (i64_of hph') (i64_of hrr') (i64_of had') ht' (i64_of hix') _ (hL.below c0_2).pow) ?_
  rintro e w3 ⟨rfl, b3⟩
  have c0_3 := c0_2.trans (b3.mono c0_2.size)
  refine ⟨_, rfl, c0_3, ?_⟩
  simp only [Act.put, List.setIfInBounds_toArray, List.set_cons_zero, List.set_cons_succ]
  refine Held.take (v := .bool bp) 6 (some 25) rfl rfl (by kernel_rfl) (by kernel_rfl) (by kernel_rfl) (fun _ _ _ h => h) rfl (y_eqsd rfl rfl rfl HNM.out) c0_3 ?_
  simp only [Act.put, List.setIfInBounds_toArray, List.set_cons_zero, List.set_cons_succ]
  refine Held.take (v := .bool true) 10 (some 29) rfl rfl (by kernel_rfl) (by kernel_rfl) (by kernel_rfl) (fun _ _ _ h => h) rfl (Held.y_eqb rfl rfl rfl (by simp) Tryd.underlying4) c0_3 ?_
  simp only [Act.put, List.setIfInBounds_toArray, List.set_cons_zero, List.set_cons_succ]
  refine Held.take (v := .bool true) 11 (some 30) rfl rfl (by kernel_rfl) (by kernel_rfl) (by kernel_rfl) (fun _ _ _ h => h) rfl (Held.y_pick rfl rfl rfl) c0_3 ?_
  simp only [Act.put, List.setIfInBounds_toArray, List.set_cons_zero, List.set_cons_succ]
  refine Held.take (v := .bool true) 12 (some 31) rfl rfl (by kernel_rfl) (by kernel_rfl) (by kernel_rfl) (fun _ _ _ h => h) rfl (Held.y_move rfl rfl) c0_3 ?_
  simp only [Act.put, List.setIfInBounds_toArray, List.set_cons_zero, List.set_cons_succ]
  refine Held.take (v := .agg #[.int .i64 ph, .int .i64 rr, .int .i64 ad, .int .u64 (t : Int), .int .i64 ix]) 13 (some 32) rfl rfl (by kernel_rfl) (by kernel_rfl) (by kernel_rfl) (fun _ _ _ h => h) rfl (y_load_place rfl rfl rfl (fun W hW => (hW.block gp h1).trans q1)) c0_3 ?_
  simp only [Act.put, List.setIfInBounds_toArray, List.set_cons_zero, List.set_cons_succ]
  refine Held.take (v := .agg #[.int .i64 ph', .int .i64 rr', .int .i64 ad', .int .u64 (t' : Int), .int .i64 ix']) 15 (some 34) rfl rfl (by kernel_rfl) (by kernel_rfl) (by kernel_rfl) (fun _ _ _ h => h) rfl (y_load_place rfl rfl rfl (fun W hW => (hW.block gq h2).trans q2)) c0_3 ?_
  simp only [Act.put, List.setIfInBounds_toArray, List.set_cons_zero, List.set_cons_succ]
  refine Held.take (v := .agg #[.int .i64 ph, .int .i64 rr, .int .i64 ad, .int .u64 (t : Int), .int .i64 ix]) 18 (some 37) rfl rfl (by kernel_rfl) (by kernel_rfl) (by kernel_rfl) (fun _ _ _ h => h) rfl (y_load_place rfl rfl rfl (fun W hW => (hW.block gp h1).trans q1)) c0_3 ?_
  simp only [Act.put, List.setIfInBounds_toArray, List.set_cons_zero, List.set_cons_succ]
  refine Held.take (v := .agg #[.int .i64 ph', .int .i64 rr', .int .i64 ad', .int .u64 (t' : Int), .int .i64 ix']) 19 (some 38) rfl rfl (by kernel_rfl) (by kernel_rfl) (by kernel_rfl) (fun _ _ _ h => h) rfl (y_load_place rfl rfl rfl (fun W hW => (hW.block gq h2).trans q2)) c0_3 ?_
  simp only [Act.put, List.setIfInBounds_toArray, List.set_cons_zero, List.set_cons_succ]
  refine Held.take (v := .bool bp) 20 (some 39) rfl rfl (by kernel_rfl) (by kernel_rfl) (by kernel_rfl) (fun _ _ _ h => h) rfl (y_eqp rfl rfl rfl HBP.out) c0_3 ?_
  simp only [Act.put, List.setIfInBounds_toArray, List.set_cons_zero, List.set_cons_succ]
  refine Held.one 14 (by kernel_rfl) ?_
  refine Held.op_call 14 (some 33) 19 #[.agg #[.int .i64 ph, .int .i64 rr, .int .i64 ad, .int .u64 (t : Int), .int .i64 ix], .int .i64 1] rfl rfl rfl rfl (enters_of Tryd.func19 (by kernel_rfl) rfl) (by simp [Act.eval])
    (aad_any ph rr ad (t : Int) ix 1 htw _) ?_
  rintro e w4 ⟨AA, nA, cA, rfl, oA, b4⟩
  have c0_4 := c0_3.trans (b4.mono c0_3.size)
  refine ⟨_, rfl, c0_4, ?_⟩
  simp only [Act.put, List.setIfInBounds_toArray, List.set_cons_zero, List.set_cons_succ]
  refine Held.one 16 (by kernel_rfl) ?_
  refine Held.op_call 16 (some 35) 19 #[.agg #[.int .i64 ph', .int .i64 rr', .int .i64 ad', .int .u64 (t' : Int), .int .i64 ix'], .int .i64 1] rfl rfl rfl rfl (enters_of Tryd.func19 (by kernel_rfl) rfl) (by simp [Act.eval])
    (aad_any ph' rr' ad' (t' : Int) ix' 1 htw' _) ?_
  rintro e w5 ⟨AB, nB, cB, rfl, oB, b5⟩
  have c0_5 := c0_4.trans (b5.mono c0_4.size)
  have oA := oA.below b5
  refine ⟨_, rfl, c0_5, ?_⟩
  simp only [Act.put, List.setIfInBounds_toArray, List.set_cons_zero, List.set_cons_succ]
  refine Held.one 17 (by kernel_rfl) ?_
  refine Held.op_call 17 (some 36) 18 #[.slice AA nA cA, .slice AB nB cB] rfl rfl rfl rfl (enters_of Tryd.func18 (by kernel_rfl) rfl) (by simp [Act.eval])
    (bytes_d _ _ _ _ _ _ _ _ _ _ _ (oA.ints oA.caps.1) (oB.ints oB.caps.1) HAA.out) ?_
  rintro e w6 ⟨rfl, b6⟩
  have c0_6 := c0_5.trans (b6.mono c0_5.size)
  clear oA oB
  refine ⟨_, rfl, c0_6, ?_⟩
  simp only [Act.put, List.setIfInBounds_toArray, List.set_cons_zero, List.set_cons_succ]
  refine Held.take (v := .bool true) 21 (some 40) rfl rfl (by kernel_rfl) (by kernel_rfl) (by kernel_rfl) (fun _ _ _ h => h) rfl (Held.y_eqb rfl rfl rfl (by simp) Tryd.underlying4) c0_6 ?_
  simp only [Act.put, List.setIfInBounds_toArray, List.set_cons_zero, List.set_cons_succ]
  refine Held.take (v := .bool true) 22 (some 41) rfl rfl (by kernel_rfl) (by kernel_rfl) (by kernel_rfl) (fun _ _ _ h => h) rfl (Held.y_pick rfl rfl rfl) c0_6 ?_
  simp only [Act.put, List.setIfInBounds_toArray, List.set_cons_zero, List.set_cons_succ]
  refine Held.take (v := .bool true) 23 (some 42) rfl rfl (by kernel_rfl) (by kernel_rfl) (by kernel_rfl) (fun _ _ _ h => h) rfl (Held.y_move rfl rfl) c0_6 ?_
  simp only [Act.put, List.setIfInBounds_toArray, List.set_cons_zero, List.set_cons_succ]
  refine Held.take (v := .int .u64 a) 24 (some 43) rfl rfl (by kernel_rfl) (by kernel_rfl) (by kernel_rfl) (fun _ _ _ h => h) rfl (Held.y_move rfl rfl) c0_6 ?_
  simp only [Act.put, List.setIfInBounds_toArray, List.set_cons_zero, List.set_cons_succ]
  refine Held.take (v := .int .i64 i1) 25 (some 44) rfl rfl (by kernel_rfl) (by kernel_rfl) (by kernel_rfl) (fun _ _ _ h => h) rfl (Held.y_move rfl rfl) c0_6 ?_
  simp only [Act.put, List.setIfInBounds_toArray, List.set_cons_zero, List.set_cons_succ]
  refine Held.take (v := .int .u64 b) 27 (some 46) rfl rfl (by kernel_rfl) (by kernel_rfl) (by kernel_rfl) (fun _ _ _ h => h) rfl (Held.y_move rfl rfl) c0_6 ?_
  simp only [Act.put, List.setIfInBounds_toArray, List.set_cons_zero, List.set_cons_succ]
  refine Held.take (v := .int .i64 k1) 28 (some 47) rfl rfl (by kernel_rfl) (by kernel_rfl) (by kernel_rfl) (fun _ _ _ h => h) rfl (Held.y_move rfl rfl) c0_6 ?_
  simp only [Act.put, List.setIfInBounds_toArray, List.set_cons_zero, List.set_cons_succ]
  refine Held.take (v := .int .u64 a) 31 (some 50) rfl rfl (by kernel_rfl) (by kernel_rfl) (by kernel_rfl) (fun _ _ _ h => h) rfl (Held.y_move rfl rfl) c0_6 ?_
  simp only [Act.put, List.setIfInBounds_toArray, List.set_cons_zero, List.set_cons_succ]
  refine Held.take (v := .int .u64 b) 32 (some 51) rfl rfl (by kernel_rfl) (by kernel_rfl) (by kernel_rfl) (fun _ _ _ h => h) rfl (Held.y_move rfl rfl) c0_6 ?_
  simp only [Act.put, List.setIfInBounds_toArray, List.set_cons_zero, List.set_cons_succ]
  refine Held.take (v := .bool false) 33 (some 52) rfl rfl (by kernel_rfl) (by kernel_rfl) (by kernel_rfl) (fun _ _ _ h => h) rfl (y_eqid rfl rfl rfl HAB.out) c0_6 ?_
  simp only [Act.put, List.setIfInBounds_toArray, List.set_cons_zero, List.set_cons_succ]
  refine Held.one 26 (by kernel_rfl) ?_
  refine Held.op_call 26 (some 45) 16 #[.int .u64 a, .int .i64 i1] rfl rfl rfl rfl (enters_of Tryd.func16 (by kernel_rfl) rfl) (by simp [Act.eval])
    (nonce_any a i1 ha _) ?_
  rintro e w7 ⟨rfl, b7⟩
  have c0_7 := c0_6.trans (b7.mono c0_6.size)
  refine ⟨_, rfl, c0_7, ?_⟩
  simp only [Act.put, List.setIfInBounds_toArray, List.set_cons_zero, List.set_cons_succ]
  refine Held.one 29 (by kernel_rfl) ?_
  refine Held.op_call 29 (some 48) 16 #[.int .u64 b, .int .i64 k1] rfl rfl rfl rfl (enters_of Tryd.func16 (by kernel_rfl) rfl) (by simp [Act.eval])
    (nonce_any b k1 hb _) ?_
  rintro e w8 ⟨rfl, b8⟩
  have c0_8 := c0_7.trans (b8.mono c0_7.size)
  refine ⟨_, rfl, c0_8, ?_⟩
  simp only [Act.put, List.setIfInBounds_toArray, List.set_cons_zero, List.set_cons_succ]
  refine Held.take (v := .bool false) 30 (some 49) rfl rfl (by kernel_rfl) (by kernel_rfl) (by kernel_rfl) (fun _ _ _ h => h) rfl (y_eqa rfl rfl rfl HNO.out (by kernel_rfl) Tryd.underlying31 Tryd.underlying5 (by kernel_rfl) (nonce_length _ _) (nonce_length _ _)) c0_8 ?_
  simp only [Act.put, List.setIfInBounds_toArray, List.set_cons_zero, List.set_cons_succ]
  refine Held.take (v := .bool false) 34 (some 53) rfl rfl (by kernel_rfl) (by kernel_rfl) (by kernel_rfl) (fun _ _ _ h => h) rfl (Held.y_move rfl rfl) c0_8 ?_
  simp only [Act.put, List.setIfInBounds_toArray, List.set_cons_zero, List.set_cons_succ]
  refine Held.skip 35 (some 54) rfl rfl (by kernel_rfl) (by kernel_rfl) (by kernel_rfl) (fun _ _ _ h => h) rfl c0_8 ?_
  simp only [Act.put, List.setIfInBounds_toArray, List.set_cons_zero, List.set_cons_succ]
  refine Held.skip 36 (some 55) rfl rfl (by kernel_rfl) (by kernel_rfl) (by kernel_rfl) (fun _ _ _ h => h) rfl c0_8 ?_
  simp only [Act.put, List.setIfInBounds_toArray, List.set_cons_zero, List.set_cons_succ]
  refine Held.skip 37 (some 56) rfl rfl (by kernel_rfl) (by kernel_rfl) (by kernel_rfl) (fun _ _ _ h => h) rfl c0_8 ?_
  simp only [Act.put, List.setIfInBounds_toArray, List.set_cons_zero, List.set_cons_succ]
  refine Held.take (v := (.bool false)) 38 (some 57) rfl rfl (by kernel_rfl) (by kernel_rfl) (by kernel_rfl) (fun _ _ _ h => h) rfl (Held.y_pickF rfl rfl rfl) c0_8 ?_
  simp only [Act.put, List.setIfInBounds_toArray, List.set_cons_zero, List.set_cons_succ]
  refine Held.take (v := .bool true) 39 (some 58) rfl rfl (by kernel_rfl) (by kernel_rfl) (by kernel_rfl) (fun _ _ _ h => h) rfl (Held.y_eqb rfl rfl rfl (by simp) Tryd.underlying4) c0_8 ?_
  simp only [Act.put, List.setIfInBounds_toArray, List.set_cons_zero, List.set_cons_succ]
  refine Held.take (v := .bool true) 40 (some 59) rfl rfl (by kernel_rfl) (by kernel_rfl) (by kernel_rfl) (fun _ _ _ h => h) rfl (Held.y_pick rfl rfl rfl) c0_8 ?_
  simp only [Act.put, List.setIfInBounds_toArray, List.set_cons_zero, List.set_cons_succ]
  refine Held.take (v := .bool true) 41 (some 12) rfl rfl (by kernel_rfl) (by kernel_rfl) (by kernel_rfl) (fun _ _ _ h => h) rfl (Held.y_assign rfl rfl) c0_8 ?_
  simp only [Act.put, List.setIfInBounds_toArray, List.set_cons_zero, List.set_cons_succ]
  refine wpAnyH_done (by kernel_rfl) ?_ _
  have dz := bu.trans (c0_8.mono bu.size)
  go_wp2_with fail
  go_ret
  exact ⟨rfl, dz⟩

theorem walk (ph0 rr0 ad0 at0 ix0 : Int) (ph1 rr1 ad1 at1 ix1 : Int) (a2 : Int) (a3 : Int) (a4 : Int) (a5 : Int) (w : World) (wp0 : (Lit.int .i64 ph0).wf = true) (wr0 : (Lit.int .i64 rr0).wf = true) (wa0 : (Lit.int .i64 ad0).wf = true) (wt0 : (Lit.int .u64 at0).wf = true) (wi0 : (Lit.int .i64 ix0).wf = true) (wp1 : (Lit.int .i64 ph1).wf = true) (wr1 : (Lit.int .i64 rr1).wf = true) (wa1 : (Lit.int .i64 ad1).wf = true) (wt1 : (Lit.int .u64 at1).wf = true) (wi1 : (Lit.int .i64 ix1).wf = true) (w2 : (Lit.int .u64 a2).wf = true) (w3 : (Lit.int .u64 a3).wf = true) (w4 : (Lit.int .i64 a4).wf = true) (w5 : (Lit.int .i64 a5).wf = true) (hL : laidMetH Tryd.prog laidList w) :
    Calls Tryd.prog 4 #[.agg #[.int .i64 ph0, .int .i64 rr0, .int .i64 ad0, .int .u64 at0, .int .i64 ix0], .agg #[.int .i64 ph1, .int .i64 rr1, .int .i64 ad1, .int .u64 at1, .int .i64 ix1], .int .u64 a2, .int .u64 a3, .int .i64 a4, .int .i64 a5] w fun e w' => e = .returned (.bool true) ∧ Below w.heap.size w w' := by
  obtain ⟨t, rfl⟩ : ∃ t : Nat, at0 = t := ⟨at0.toNat, by have := wf_u64 wt0; omega⟩
  obtain ⟨t', rfl⟩ : ∃ t : Nat, at1 = t := ⟨at1.toNat, by have := wf_u64 wt1; omega⟩
  have ht := wf_u64 wt0
  have ht' := wf_u64 wt1
  by_cases hab : a2 = a3
  · subst hab
    exact start_same ph0 rr0 ad0 t ix0 ph1 rr1 ad1 t' ix1 a2 a4 a5 w wp0 wr0 wa0 wi0 (by omega) wp1 wr1 wa1 wi1 (by omega) w2 (laid_of hL)
  · exact start_other ph0 rr0 ad0 t ix0 ph1 rr1 ad1 t' ix1 a2 a3 a4 a5 w wp0 wr0 wa0 wi0 (by omega) wp1 wr1 wa1 wi1 (by omega) w2 w3 hab (laid_of hL)

set_option maxRecDepth 100000 in
theorem door_met (os : Os) (args : Array Value) : laidMetH Tryd.prog laidList ((World.doorLaid Tryd.prog 400 os).forCall (fun _ _ => 0) ⟨#[], args, []⟩).memory :=
  laidMetH_of_parts3 (fuel := 8) (laidMet_of_run' 8 (by kernel_rfl) (by kernel_rfl)) (by kernel_rfl) (by kernel_rfl)

set_option maxRecDepth 100000 in
theorem lifted (os : Os) (started : os.Started) (H : Type) (enc : TypeId × Value → H) :
    ReturnsInHanded {} Tryd.checked os 4 .any (fun w args => (Rows.keysApartSpec.pre enc Tryd.prog Tryd.f4 [] false w args ∧ laidMetH Tryd.prog laidList w) ∧ sizedMet enc Tryd.prog Tryd.f4 (OpenSpec.ofChange Rows.keysApartSpec) false w args)
      (Rows.keysApartSpec.post enc Tryd.prog Tryd.f4 false true false false) := by
  refine returnsInHanded_of_change_and (C := Tryd.checked) (X := fun w _ => laidMetH Tryd.prog laidList w) (fun _ _ _ hh h => h.of_heap hh) own started (by kernel_rfl) Tryd.func4
    (ChangeSpec.witness_shaped (enc := enc) (C := Tryd.checked) (os := os) (X := fun w _ => laidMetH Tryd.prog laidList w) false (World.doorLaid Tryd.prog 400 os) #[.agg #[.int .i64 0, .int .i64 0, .int .i64 0, .int .u64 0, .int .i64 0], .agg #[.int .i64 0, .int .i64 0, .int .i64 0, .int .u64 0, .int .i64 0], .int .u64 0, .int .u64 0, .int .i64 0, .int .i64 0] 8 rfl (World.shaped_of_RefB (by kernel_rfl) (by kernel_rfl)) (by kernel_rfl) (by kernel_rfl) (by kernel_rfl) (door_met os _)) ?_
  intro W base args ds gs before hval0 hW _ _ hL _
  have hval : ∀ (j : Nat) t v, Tryd.f4.params[j]? = some t → args[j]? = some v → Value.okWide Tryd.prog W .any base t v := hval0
  have hW' := hW
  obtain ⟨p, q, hA0, hV, rfl, hfz, hnd⟩ := hW
  have hA : DataW.TrodAll enc Tryd.prog W 0 (fun _ => true) true Tryd.f4.params.toList args.toList ds p := hA0
  rw [Tryd.params4] at hA hval
  obtain ⟨v0, vs0, d0, ds0, p0, q0, hargs, rfl, rfl, h0, r0⟩ := trodAll_cons hA
  obtain ⟨v1, vs1, d1, ds1, p1, q1, rfl, rfl, rfl, h1, r1⟩ := trodAll_cons r0
  obtain ⟨v2, vs2, d2, ds2, p2, q2, rfl, rfl, rfl, h2, r2⟩ := trodAll_cons r1
  obtain ⟨v3, vs3, d3, ds3, p3, q3, rfl, rfl, rfl, h3, r3⟩ := trodAll_cons r2
  obtain ⟨v4, vs4, d4, ds4, p4, q4, rfl, rfl, rfl, h4, r4⟩ := trodAll_cons r3
  obtain ⟨v5, vs5, d5, ds5, p5, q5, rfl, rfl, rfl, h5, r5⟩ := trodAll_cons r4
  obtain ⟨rfl, rfl, rfl⟩ := trodAll_nil r5
  obtain rfl : args = #[v0, v1, v2, v3, v4, v5] := by cases args; simp_all
  obtain ⟨rfl, rfl⟩ := trodVars_none hV
  have k0 := h0
  have lt0 : ∀ x ∈ p0, x.block < W.heap.size := by obtain ⟨m, hm⟩ := k0; exact DataW.trod_lt m _ _ _ hm
  obtain ⟨ph0, rr0, ad0, at0, ix0, rfl, wp0, wr0, wa0, wt0, wi0⟩ := Ky.open_place (hval 0 25 v0 rfl rfl) h0
  have k1 := h1
  have lt1 : ∀ x ∈ p1, x.block < W.heap.size := by obtain ⟨m, hm⟩ := k1; exact DataW.trod_lt m _ _ _ hm
  obtain ⟨ph1, rr1, ad1, at1, ix1, rfl, wp1, wr1, wa1, wt1, wi1⟩ := Ky.open_place (hval 1 25 v1 rfl rfl) h1
  obtain ⟨a2, rfl, rfl, rfl, w2⟩ := open_int Tryd.underlying23 (hval 2 23 v2 rfl rfl) h2
  obtain ⟨a3, rfl, rfl, rfl, w3⟩ := open_int Tryd.underlying23 (hval 3 23 v3 rfl rfl) h3
  obtain ⟨a4, rfl, rfl, rfl, w4⟩ := open_int Tryd.underlying3 (hval 4 3 v4 rfl rfl) h4
  obtain ⟨a5, rfl, rfl, rfl, w5⟩ := open_int Tryd.underlying3 (hval 5 3 v5 rfl rfl) h5
  clear hA0 hval0
  refine (walk ph0 rr0 ad0 at0 ix0 ph1 rr1 ad1 at1 ix1 a2 a3 a4 a5 W wp0 wr0 wa0 wt0 wi0 wp1 wr1 wa1 wt1 wi1 w2 w3 w4 w5 hL).mono fun e W' ⟨he, bel⟩ => ?_
  subst he
  exact ⟨_, rfl, _, _, _, [], _, [], hW', trodAll_mk1 (shut_bool Tryd.underlying4 _), (trodAll_cons_mk (Below.trod laidOut (by kernel_rfl) (of_decide_eq_true (by kernel_rfl)) k0 bel lt0) (trodAll_cons_mk (Below.trod laidOut (by kernel_rfl) (of_decide_eq_true (by kernel_rfl)) k1 bel lt1) (trodAll_cons_mk (shut_int Tryd.underlying23 w2) (trodAll_cons_mk (shut_int Tryd.underlying23 w3) (trodAll_cons_mk (shut_int Tryd.underlying3 w4) (trodAll_cons_mk (shut_int Tryd.underlying3 w5) trodAll_mk0)))))), rfl, bel.frame _, fun h => by cases h⟩

theorem over : Rows.keysApartRow.holds Tryd.pinned (OpenSpec.ofChange Rows.keysApartSpec) :=
  OpenClaim.holds_of_wide 4 Tryd.f4 rfl rfl rfl rfl rfl rfl rfl ⟨rfl, rfl, rfl, rfl, rfl⟩ rfl rfl rfl rfl rfl (by kernel_rfl) Tryd.func4 (by kernel_rfl)
    (of_decide_eq_true (by kernel_rfl)) (by unfold Func.isWrapper; first | (rw [if_pos (by decide +kernel)]; kernel_rfl) | (rw [if_neg (by decide +kernel)]; exact ⟨rfl, rfl⟩))
    (fun os started H enc _ => lifted os started H enc)

/-- the statement -/
theorem proved : Rows.KeysApartCardSaid :=
  Claim7.holds_tied_plain_at .later [] [.data, .data, .data, .data, .data] true (true, "fe1dbfda3e658804a55fdba0f4ddfa6429789fc06891c4c7fe71500c74ecefd9") false
    over (fun _ h => by cases h) (by kernel_rfl) (fun _ h => by cases h) keysApart_row_tie rfl ⟨rfl, rfl⟩ (by kernel_rfl) rfl
    (fun f fn hf hfn => by
      obtain rfl : f = 4 := Option.some.inj ((show Tryd.prog.funcNamed "domino/dominolaw08.KeysApart" = some 4 by kernel_rfl).symm.trans hf) |>.symm
      obtain rfl : fn = Tryd.f4 := (Option.some.inj (Tryd.func4.symm.trans hfn)).symm
      exact ⟨by kernel_rfl, fun j t ht => by
        rw [Tryd.params4] at ht
        have hm : t ∈ [25, 25, 23, 23, 3, 3] := by simpa using Array.mem_of_getElem? ht
        have hall : ([25, 25, 23, 23, 3, 3].all fun u => !Tryd.prog.wantsStandIn u) = true := by kernel_rfl
        exact (show Tryd.prog.wantsStandIn t = false by simpa using List.all_eq_true.1 hall t hm)⟩)
    (by kernel_rfl)
#print axioms proved
end Go.Proofs.YtoelgcdjhekafaaDoor.keysApart
