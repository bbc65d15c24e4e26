/-
  The law HkdfShort of package dominolaw04 returns true for every salt, key and info and every two numbers: fewer bytes are a beginning of more; Key is Expand of Extract; a salt of no bytes is zeros. The tables of package sha hold what the program's text lays.
-/
import Derived.Test.YtbfdhbobokfbhaaDoorRows
import Derived.Test.YtbfdhbobokfbhaaDoorCards
import Derived.Test.YtbfdhbobokfbhaaDoorTie
import Derived.SevenTiedAt
import Derived.WalkKit
import Derived.ProofKit
import Derived.OpenShut
import Derived.ShutString
import Derived.ChangeOld
import Derived.Below
import Derived.LaidMore
import Derived.Stop.Joined
import Derived.Test.YtbfdhbobokfbhaaDoorHkA
import Derived.Test.YtbfdhbobokfbhaaDoorLaid
import Derived.Test.YtbfdhbobokfbhaaDoorReg
namespace Go.Proofs.YtbfdhbobokfbhaaDoor.hkdfShort
open Go.ChangeShapes Go.WideShapes Go.ChangeAt Go.RowKit
open Go.ChangeMaps (open_string shut_string)
open Go.Shelf Go.Proofs.YtbfdhbobokfbhaaDoor.Mem Go.Proofs.YtbfdhbobokfbhaaDoor.Help Go.Proofs.YtbfdhbobokfbhaaDoor.Sum Go.Proofs.YtbfdhbobokfbhaaDoor.Sha Go.Proofs.YtbfdhbobokfbhaaDoor.Mac Go.Proofs.YtbfdhbobokfbhaaDoor.Hkdf Go.Proofs.YtbfdhbobokfbhaaDoor
set_option linter.unusedVariables false

theorem own : ownKnob Tryd.prog.godebug = none := by kernel_rfl
theorem laidOut : laidOutB Tryd.prog = true := by kernel_rfl

/-- what a slice that came in leads to -/
def IsRow (k : IntKind) (w : World) (a : Option Addr) (len cap : Nat) (zs : List Int) : Prop :=
  (a = none ∧ len = 0 ∧ cap = 0 ∧ zs = []) ∨
  ∃ x, a = some x ∧ len ≤ cap ∧ cap ≤ maxLen ∧ zs.length = cap ∧ (∀ i, i < zs.length → w.cell? (x.add i) = some (.int k (zs.getD i 0))) ∧ ∀ n ∈ zs, (Lit.int k n).wf = true

def laidList : List (String × DataW Unit) := [("domino/sha.start", Rows.laid_domino_sha_start), ("domino/sha.words", Rows.laid_domino_sha_words)]

attribute [local irreducible] wpList

theorem tag_no_salt (key : List Int) : tag [] key = tag (List.replicate 32 0) key := by
  have : blk [] = blk (List.replicate 32 0) := by decide
  unfold tag
  rw [this]

set_option maxRecDepth 100000 in
set_option maxHeartbeats 8000000 in
theorem start (A A' A2 : Option Addr) (n c n' c' m c2 : Nat) (salt key info : List Int) (x y : Int) (w : World) (h : Ints w .u8 w.heap.size A n salt) (hc : n ≤ c) (hc' : c ≤ maxLen) (h' : Ints w .u8 w.heap.size A' n' key) (hd : n' ≤ c') (hd' : c' ≤ maxLen)
    (h2 : Ints w .u8 w.heap.size A2 m info) (hmc : m ≤ c2) (hcm : c2 ≤ maxLen) (hT : Tab w 0 Sum.H0 ∧ Tab w 1 Sum.K) :
    Calls Tryd.prog 4 #[.slice A n c, .slice A' n' c', .slice A2 m c2, .int .i64 x, .int .i64 y] w fun e w' => e = .returned (.bool true) ∧ Below w.heap.size w w' := by
  by_cases hbig : 300 < n ∨ 300 < n' ∨ 300 < m
  · rcases (by omega : 300 < n ∨ (¬ 300 < n ∧ 300 < n') ∨ (¬ 300 < n ∧ ¬ 300 < n' ∧ 300 < m)) with hb | ⟨hb, hb'⟩ | ⟨hb, hb', hb2⟩
    · have q1 : (300 : Int) < (n : Int) := by omega
      go_enter Tryd.func4, Tryd.ntmps4
      go_wp2_with (go_at_call 7; refine (awake4_any _ hT.1 hT.2).mono ?_; rintro e w' ⟨rfl, hb⟩)
      go_ret
      exact ⟨rfl, hb⟩
    · have q1 : ¬ (300 : Int) < (n : Int) := by omega
      have q2 : (300 : Int) < (n' : Int) := by omega
      go_enter Tryd.func4, Tryd.ntmps4
      go_wp2_with (go_at_call 7; refine (awake4_any _ hT.1 hT.2).mono ?_; rintro e w' ⟨rfl, hb⟩)
      go_ret
      exact ⟨rfl, hb⟩
    · have q1 : ¬ (300 : Int) < (n : Int) := by omega
      have q2 : ¬ (300 : Int) < (n' : Int) := by omega
      have q3 : (300 : Int) < (m : Int) := by omega
      go_enter Tryd.func4, Tryd.ntmps4
      go_wp2_with (go_at_call 7; refine (awake4_any _ hT.1 hT.2).mono ?_; rintro e w' ⟨rfl, hb⟩)
      go_ret
      exact ⟨rfl, hb⟩
  have q1 : ¬ (300 : Int) < (n : Int) := by omega
  have q2 : ¬ (300 : Int) < (n' : Int) := by omega
  have q3 : ¬ (300 : Int) < (m : Int) := by omega
  obtain ⟨N, hN, hN1, hN2⟩ : ∃ N : Nat, wrap64 (1 + wrap64 ((IntKind.u64.wrap x).tmod 300)) = (N : Int) ∧ 1 ≤ N ∧ N ≤ 300 := by
    have hu0 : 0 ≤ IntKind.u64.wrap x := by rw [IntKind.wrap_u64]; omega
    have h1 : 0 ≤ IntKind.u64.wrap x % 300 := Int.emod_nonneg _ (by omega)
    have h2 : IntKind.u64.wrap x % 300 < 300 := Int.emod_lt_of_pos _ (by omega)
    rw [Int.tmod_eq_emod_of_nonneg hu0]
    exact ⟨(1 + IntKind.u64.wrap x % 300).toNat, by unfold wrap64; omega, by omega, by omega⟩
  have hNu : IntKind.u64.wrap (N : Int) = (N : Int) := by rw [IntKind.wrap_u64]; omega
  have hN0 : ¬ (N : Int) = 0 := by omega
  obtain ⟨M, hM, hM1, hMN⟩ : ∃ M : Nat, wrap64 (1 + wrap64 ((IntKind.u64.wrap y).tmod (N : Int))) = (M : Int) ∧ 1 ≤ M ∧ M ≤ N := by
    have hu0 : 0 ≤ IntKind.u64.wrap y := by rw [IntKind.wrap_u64]; omega
    have h1 : 0 ≤ IntKind.u64.wrap y % (N : Int) := Int.emod_nonneg _ (by omega)
    have h2 : IntKind.u64.wrap y % (N : Int) < N := Int.emod_lt_of_pos _ (by omega)
    rw [Int.tmod_eq_emod_of_nonneg hu0]
    exact ⟨(1 + IntKind.u64.wrap y % (N : Int)).toNat, by unfold wrap64; omega, by omega, by omega⟩
  go_enter Tryd.func4, Tryd.ntmps4
  go_wp2_with fail
  clear hN hNu hM
  refine (extract_any _ _ A A' n c n' c' salt key w h (Nat.le_refl _) hc hc' (by omega) h' (Nat.le_refl _) hd hd' (by omega) hT.1 hT.2).mono ?_
  rintro e w1 ⟨rfl, b1⟩
  obtain ⟨X, hX⟩ : ∃ X, tag salt key = X := ⟨_, rfl⟩
  have hXl : X.length = 32 := by rw [← hX]; exact tag_length _ _
  have hXw : ∀ z ∈ X, (Lit.int .u8 z).wf = true := by rw [← hX]; exact tag_wf _ _
  rw [hX]
  have HX := Lib.hid hX
  have HXL := Lib.hid hXl
  have HXW := Lib.hid hXw
  clear hX hXl hXw
  go_wp2_with (first
    | (refine wpList_alloc_Row (w := w1) rfl 25 rfl .u8 32 zero_32 ?_; intro w2 r2 g2 z2)
    | (refine wpList_store_RowTo (w := w2) rfl 25 _ _ rfl w1.heap.size rfl 25 .u8 _ X rfl r2 32 info_32 HXL.out (by simp) HXW.out ?_; intro w3 r3 g3 z3)
    | (refine wpList_load_Row (w := w3) rfl 25 _ rfl w1.heap.size rfl 25 .u8 _ r3 32 5 Tryd.underlying25 info_32 HXL.out ?_))
  obtain ⟨gx, hgx⟩ : ∃ gx, w1.heap.size = gx := ⟨_, rfl⟩
  have s1 := b1.size
  have b3 : Below w.heap.size w w3 := (b1.grown g2 s1 (by simp)).grown g3 (by have := g2.size; omega) (fun r e => by cases e; omega)
  rw [hgx] at r3 ⊢
  clear r2 g2 g3 z2 z3 hgx b1 s1
  refine (expand_any X info HXL.out HXW.out _ A2 m c2 N w3 (h2.below b3) b3.size hmc hcm (by omega) hN1 (by omega) (hT.1.below b3 hT.1.lt) (hT.2.below b3 hT.2.lt)).mono ?_
  rintro e w4 ⟨ga, rfl, hga, ra, hb⟩
  have b4 := b3.trans (hb.mono b3.size)
  have r4 := r3.below hb r3.lt
  clear hb b3 r3
  go_wp2_with (refine wpList_load_Row (w := w4) rfl 25 _ rfl gx rfl 25 .u8 _ r4 32 5 Tryd.underlying25 info_32 HXL.out ?_)
  refine (expand_any X info HXL.out HXW.out _ A2 m c2 M w4 (h2.below b4) b4.size hmc hcm (by omega) hM1 (by omega) (hT.1.below b4 hT.1.lt) (hT.2.below b4 hT.2.lt)).mono ?_
  rintro e w5 ⟨gb, rfl, hgb, rb, hb⟩
  have b5 := b4.trans (hb.mono b4.size)
  have r5 := r4.below hb r4.lt
  have ra5 := ra.below hb ra.lt
  clear hb b4 r4 ra
  go_wp2_with (refine wpList_load_Row (w := w5) rfl 25 _ rfl gx rfl 25 .u8 _ r5 32 5 Tryd.underlying25 info_32 HXL.out ?_)
  refine (expand_32 X info HXL.out HXW.out _ A2 m c2 w5 (h2.below b5) b5.size hmc hcm (by omega) (hT.1.below b5 hT.1.lt) (hT.2.below b5 hT.2.lt)).mono ?_
  rintro e w6 ⟨gc, rfl, hgc, rc, hb⟩
  have b6 := b5.trans (hb.mono b5.size)
  have ra6 := ra5.below hb ra5.lt
  have rb6 := rb.below hb rb.lt
  clear hb b5 r5 ra5 rb
  go_wp2_with fail
  refine (key_any _ _ _ A A' A2 n c n' c' m c2 salt key info w6 (h.below b6) b6.size hc hc' (by omega) (h'.below b6) b6.size hd hd' (by omega) (h2.below b6) b6.size hmc hcm (by omega) (hT.1.below b6 hT.1.lt) (hT.2.below b6 hT.2.lt)).mono ?_
  rintro e w7 ⟨rfl, hb⟩
  have b7 := b6.trans (hb.mono b6.size)
  have ra7 := ra6.below hb ra6.lt
  have rb7 := rb6.below hb rb6.lt
  have rc7 := rc.below hb rc.lt
  clear hb b6 ra6 rb6 rc
  have HKL := Lib.hid (hkey_length salt key info)
  have HKW := Lib.hid (hkey_wf salt key info)
  go_wp2_with (first
    | (refine wpList_alloc_Row (w := w7) rfl 25 rfl .u8 32 zero_32 ?_; intro w8 r8 g8 z8)
    | (refine wpList_store_RowTo (w := w8) rfl 25 _ _ rfl w7.heap.size rfl 25 .u8 _ (hkey salt key info) rfl r8 32 info_32 HKL.out (by simp) HKW.out ?_; intro wz rz gz zz))
  obtain ⟨gk, hgk⟩ : ∃ gk, w7.heap.size = gk := ⟨_, rfl⟩
  have s7 := b7.size
  have la := ra7.lt
  have lb := rb7.lt
  have lc := rc7.lt
  have s8 := g8.size
  rw [hgk] at rz gz la lb lc s7 s8 ⊢
  have b : Below w.heap.size w wz := (b7.grown g8 (by omega) (by simp)).grown gz (by omega) (fun r e => by cases e; omega)
  have raz := (ra7.grown g8 (by simp)).grown gz (by intro e; injection e with e; omega)
  have rbz := (rb7.grown g8 (by simp)).grown gz (by intro e; injection e with e; omega)
  have rcz := (rc7.grown g8 (by simp)).grown gz (by intro e; injection e with e; omega)
  have iaM := raz.ints (n := M) (by rw [out_length _ _ _ (by omega)]; omega)
  have ib := rbz.ints (n := M) (by rw [out_length _ _ _ (by omega)]; omega)
  rw [List.take_of_length_le (by rw [out_length _ _ _ (by omega)]; omega)] at ib
  have ic := rcz.ints (n := 32) (by rw [out_length _ _ _ (by omega)]; omega)
  rw [List.take_of_length_le (by rw [out_length _ _ _ (by omega)]; omega)] at ic
  have ik := rz.ints (n := 32) (by rw [HKL.out]; omega)
  rw [List.take_of_length_le (by rw [HKL.out]; omega)] at ik
  have HAB := Lib.hid (out_take X info M N hMN)
  have HCK := Lib.hid (show out X info 32 = hkey salt key info by rw [hkey_def, HX.out])
  have HNZ := Lib.hid (tag_no_salt key)
  clear g8 gz zz z8 r8 hgk ra7 rb7 rc7 b7
  refine wp_region_held (S := fun W => Below wz.heap.size wz W) (by kernel_rfl) ?_
  change wpAnyH _ _ _ _ _ _ _ _ wz.drew
  have c0_0 := (Below.refl wz.heap.size wz).drew
  refine Held.one 0 (by kernel_rfl) ?_
  refine Held.op_call 0 (some 72) 7 #[] rfl rfl rfl rfl (enters_of Tryd.func7 (by kernel_rfl) rfl) (by simp [Act.eval])
    (awake4_any _ (hT.1.below (b.trans (c0_0.mono b.size)) hT.1.lt) (hT.2.below (b.trans (c0_0.mono b.size)) hT.2.lt)) ?_
  rintro e w1 ⟨rfl, b1⟩
  have c0_1 := c0_0.trans (b1.mono c0_0.size)
  refine ⟨_, rfl, c0_1, ?_⟩
  simp only [Act.put, List.setIfInBounds_toArray, List.set_cons_zero, List.set_cons_succ]
  refine Held.take (v := .bool true) 1 (some 73) rfl rfl (by kernel_rfl) (by kernel_rfl) (by kernel_rfl) (fun _ _ _ h => h) rfl (Held.y_move rfl rfl) c0_1 ?_
  simp only [Act.put, List.setIfInBounds_toArray, List.set_cons_zero, List.set_cons_succ]
  refine Held.take (v := .int .i64 0) 2 (some 74) rfl rfl (by kernel_rfl) (by kernel_rfl) (by kernel_rfl) (fun _ _ _ h => h) rfl (Held.y_move rfl rfl) c0_1 ?_
  simp only [Act.put, List.setIfInBounds_toArray, List.set_cons_zero, List.set_cons_succ]
  refine Held.take (v := .bool true) 3 (some 75) rfl rfl (by kernel_rfl) (by kernel_rfl) (by kernel_rfl) (fun _ _ _ h => h) rfl (Held.y_eqi rfl rfl rfl) c0_1 ?_
  simp only [Act.put, List.setIfInBounds_toArray, List.set_cons_zero, List.set_cons_succ]
  refine Held.take (v := .bool true) 4 (some 76) rfl rfl (by kernel_rfl) (by kernel_rfl) (by kernel_rfl) (fun _ _ _ h => h) rfl (Held.y_pick rfl rfl rfl) c0_1 ?_
  simp only [Act.put, List.setIfInBounds_toArray, List.set_cons_zero, List.set_cons_succ]
  refine Held.take (v := .bool true) 5 (some 77) rfl rfl (by kernel_rfl) (by kernel_rfl) (by kernel_rfl) (fun _ _ _ h => h) rfl (Held.y_move rfl rfl) c0_1 ?_
  simp only [Act.put, List.setIfInBounds_toArray, List.set_cons_zero, List.set_cons_succ]
  refine Held.take (v := .int .i64 0) 6 (some 78) rfl rfl (by kernel_rfl) (by kernel_rfl) (by kernel_rfl) (fun _ _ _ h => h) rfl (Held.y_move rfl rfl) c0_1 ?_
  simp only [Act.put, List.setIfInBounds_toArray, List.set_cons_zero, List.set_cons_succ]
  refine Held.take (v := .bool true) 7 (some 79) rfl rfl (by kernel_rfl) (by kernel_rfl) (by kernel_rfl) (fun _ _ _ h => h) rfl (Held.y_eqi rfl rfl rfl) c0_1 ?_
  simp only [Act.put, List.setIfInBounds_toArray, List.set_cons_zero, List.set_cons_succ]
  refine Held.take (v := .bool true) 8 (some 80) rfl rfl (by kernel_rfl) (by kernel_rfl) (by kernel_rfl) (fun _ _ _ h => h) rfl (Held.y_pick rfl rfl rfl) c0_1 ?_
  simp only [Act.put, List.setIfInBounds_toArray, List.set_cons_zero, List.set_cons_succ]
  refine Held.take (v := .bool true) 9 (some 81) rfl rfl (by kernel_rfl) (by kernel_rfl) (by kernel_rfl) (fun _ _ _ h => h) rfl (Held.y_move rfl rfl) c0_1 ?_
  simp only [Act.put, List.setIfInBounds_toArray, List.set_cons_zero, List.set_cons_succ]
  refine Held.take (v := .int .i64 0) 10 (some 82) rfl rfl (by kernel_rfl) (by kernel_rfl) (by kernel_rfl) (fun _ _ _ h => h) rfl (Held.y_move rfl rfl) c0_1 ?_
  simp only [Act.put, List.setIfInBounds_toArray, List.set_cons_zero, List.set_cons_succ]
  refine Held.take (v := .bool true) 11 (some 83) rfl rfl (by kernel_rfl) (by kernel_rfl) (by kernel_rfl) (fun _ _ _ h => h) rfl (Held.y_eqi rfl rfl rfl) c0_1 ?_
  simp only [Act.put, List.setIfInBounds_toArray, List.set_cons_zero, List.set_cons_succ]
  refine Held.take (v := .bool true) 12 (some 84) rfl rfl (by kernel_rfl) (by kernel_rfl) (by kernel_rfl) (fun _ _ _ h => h) rfl (Held.y_pick rfl rfl rfl) c0_1 ?_
  simp only [Act.put, List.setIfInBounds_toArray, List.set_cons_zero, List.set_cons_succ]
  refine Held.take (v := .bool true) 13 (some 85) rfl rfl (by kernel_rfl) (by kernel_rfl) (by kernel_rfl) (fun _ _ _ h => h) rfl (Held.y_move rfl rfl) c0_1 ?_
  simp only [Act.put, List.setIfInBounds_toArray, List.set_cons_zero, List.set_cons_succ]
  refine Held.take (v := .slice (some ⟨ga, 0, none⟩) N N) 14 (some 86) rfl rfl (by kernel_rfl) (by kernel_rfl) (by kernel_rfl) (fun _ _ _ h => h) rfl (Held.y_move rfl rfl) c0_1 ?_
  simp only [Act.put, List.setIfInBounds_toArray, List.set_cons_zero, List.set_cons_succ]
  refine Held.take (v := .int .i64 (N : Int)) 15 (some 87) rfl rfl (by kernel_rfl) (by kernel_rfl) (by kernel_rfl) (fun _ _ _ h => h) rfl (Held.y_len rfl rfl (by kernel_rfl)) c0_1 ?_
  simp only [Act.put, List.setIfInBounds_toArray, List.set_cons_zero, List.set_cons_succ]
  refine Held.take (v := .int .i64 (N : Int)) 16 (some 88) rfl rfl (by kernel_rfl) (by kernel_rfl) (by kernel_rfl) (fun _ _ _ h => h) rfl (Held.y_move rfl rfl) c0_1 ?_
  simp only [Act.put, List.setIfInBounds_toArray, List.set_cons_zero, List.set_cons_succ]
  refine Held.take (v := .bool true) 17 (some 89) rfl rfl (by kernel_rfl) (by kernel_rfl) (by kernel_rfl) (fun _ _ _ h => h) rfl (Held.y_eqi rfl rfl rfl) c0_1 ?_
  simp only [Act.put, List.setIfInBounds_toArray, List.set_cons_zero, List.set_cons_succ]
  refine Held.take (v := .bool true) 18 (some 90) rfl rfl (by kernel_rfl) (by kernel_rfl) (by kernel_rfl) (fun _ _ _ h => h) rfl (Held.y_pick rfl rfl rfl) c0_1 ?_
  simp only [Act.put, List.setIfInBounds_toArray, List.set_cons_zero, List.set_cons_succ]
  refine Held.take (v := .bool true) 19 (some 91) rfl rfl (by kernel_rfl) (by kernel_rfl) (by kernel_rfl) (fun _ _ _ h => h) rfl (Held.y_move rfl rfl) c0_1 ?_
  simp only [Act.put, List.setIfInBounds_toArray, List.set_cons_zero, List.set_cons_succ]
  refine Held.take (v := .slice (some ⟨ga, 0, none⟩) N N) 20 (some 92) rfl rfl (by kernel_rfl) (by kernel_rfl) (by kernel_rfl) (fun _ _ _ h => h) rfl (Held.y_move rfl rfl) c0_1 ?_
  simp only [Act.put, List.setIfInBounds_toArray, List.set_cons_zero, List.set_cons_succ]
  refine Held.take (v := .int .i64 (M : Int)) 21 (some 93) rfl rfl (by kernel_rfl) (by kernel_rfl) (by kernel_rfl) (fun _ _ _ h => h) rfl (Held.y_move rfl rfl) c0_1 ?_
  simp only [Act.put, List.setIfInBounds_toArray, List.set_cons_zero, List.set_cons_succ]
  refine Held.take (v := .slice (some ⟨ga, 0, none⟩) M N) 22 (some 94) rfl rfl (by kernel_rfl) (by kernel_rfl) (by kernel_rfl) (fun _ _ _ h => h) rfl (Held.y_slice rfl (fun W => run_front (P := Tryd.prog) (t := 22) (e := 5) (n := N) Tryd.underlying22 (by kernel_rfl) (Flat.head ga 0 N) (h := M) hMN W)) c0_1 ?_
  simp only [Act.put, List.setIfInBounds_toArray, List.set_cons_zero, List.set_cons_succ]
  refine Held.take (v := .slice (some ⟨gb, 0, none⟩) M M) 23 (some 95) rfl rfl (by kernel_rfl) (by kernel_rfl) (by kernel_rfl) (fun _ _ _ h => h) rfl (Held.y_move rfl rfl) c0_1 ?_
  simp only [Act.put, List.setIfInBounds_toArray, List.set_cons_zero, List.set_cons_succ]
  refine Held.one 24 (by kernel_rfl) ?_
  refine Held.op_call 24 (some 96) 13 #[.slice (some ⟨ga, 0, none⟩) M N, .slice (some ⟨gb, 0, none⟩) M M] rfl rfl rfl rfl (enters_of Tryd.func13 (by kernel_rfl) rfl) (by simp [Act.eval])
    (Held.bytes_same _ _ _ _ _ _ _ _ _ _ _ (iaM.below c0_1) (ib.below c0_1) HAB.out) ?_
  rintro e w2 ⟨rfl, b2⟩
  have c0_2 := c0_1.trans (b2.mono c0_1.size)
  refine ⟨_, rfl, c0_2, ?_⟩
  simp only [Act.put, List.setIfInBounds_toArray, List.set_cons_zero, List.set_cons_succ]
  refine Held.take (v := .bool true) 25 (some 97) rfl rfl (by kernel_rfl) (by kernel_rfl) (by kernel_rfl) (fun _ _ _ h => h) rfl (Held.y_pick rfl rfl rfl) c0_2 ?_
  simp only [Act.put, List.setIfInBounds_toArray, List.set_cons_zero, List.set_cons_succ]
  refine Held.take (v := .bool true) 26 (some 98) rfl rfl (by kernel_rfl) (by kernel_rfl) (by kernel_rfl) (fun _ _ _ h => h) rfl (Held.y_move rfl rfl) c0_2 ?_
  simp only [Act.put, List.setIfInBounds_toArray, List.set_cons_zero, List.set_cons_succ]
  refine Held.take (v := .slice (some ⟨gc, 0, none⟩) 32 32) 27 (some 99) rfl rfl (by kernel_rfl) (by kernel_rfl) (by kernel_rfl) (fun _ _ _ h => h) rfl (Held.y_move rfl rfl) c0_2 ?_
  simp only [Act.put, List.setIfInBounds_toArray, List.set_cons_zero, List.set_cons_succ]
  refine Held.take (v := .slice (some ⟨gk, 0, none⟩) 32 32) 28 (some 100) rfl rfl (by kernel_rfl) (by kernel_rfl) (by kernel_rfl) (fun _ _ _ h => h) rfl (Held.y_slice rfl (fun W => run_slice_arr_all (P := Tryd.prog) 25 5 32 gk W Tryd.underlying25 (by kernel_rfl) (by omega))) c0_2 ?_
  simp only [Act.put, List.setIfInBounds_toArray, List.set_cons_zero, List.set_cons_succ]
  refine Held.one 29 (by kernel_rfl) ?_
  refine Held.op_call 29 (some 101) 13 #[.slice (some ⟨gc, 0, none⟩) 32 32, .slice (some ⟨gk, 0, none⟩) 32 32] rfl rfl rfl rfl (enters_of Tryd.func13 (by kernel_rfl) rfl) (by simp [Act.eval])
    (Held.bytes_same _ _ _ _ _ _ _ _ _ _ _ (ic.below c0_2) (ik.below c0_2) HCK.out) ?_
  rintro e w3 ⟨rfl, b3⟩
  have c0_3 := c0_2.trans (b3.mono c0_2.size)
  refine ⟨_, rfl, c0_3, ?_⟩
  simp only [Act.put, List.setIfInBounds_toArray, List.set_cons_zero, List.set_cons_succ]
  refine Held.take (v := .bool true) 30 (some 102) rfl rfl (by kernel_rfl) (by kernel_rfl) (by kernel_rfl) (fun _ _ _ h => h) rfl (Held.y_pick rfl rfl rfl) c0_3 ?_
  simp only [Act.put, List.setIfInBounds_toArray, List.set_cons_zero, List.set_cons_succ]
  refine Held.take (v := .bool true) 31 (some 103) rfl rfl (by kernel_rfl) (by kernel_rfl) (by kernel_rfl) (fun _ _ _ h => h) rfl (Held.y_move rfl rfl) c0_3 ?_
  simp only [Act.put, List.setIfInBounds_toArray, List.set_cons_zero, List.set_cons_succ]
  refine Held.take (v := (.slice A' n' c')) 32 (some 104) rfl rfl (by kernel_rfl) (by kernel_rfl) (by kernel_rfl) (fun _ _ _ h => h) rfl (Held.y_move rfl rfl) c0_3 ?_
  simp only [Act.put, List.setIfInBounds_toArray, List.set_cons_zero, List.set_cons_succ]
  refine Held.take (v := (.slice A' n' c')) 35 (some 107) rfl rfl (by kernel_rfl) (by kernel_rfl) (by kernel_rfl) (fun _ _ _ h => h) rfl (Held.y_move rfl rfl) c0_3 ?_
  simp only [Act.put, List.setIfInBounds_toArray, List.set_cons_zero, List.set_cons_succ]
  refine Held.two 33 34 (by kernel_rfl) ?_ ?_
  · refine Held.op_call 33 (some 105) 9 #[.slice none 0 0, (.slice A' n' c')] rfl rfl rfl rfl (enters_of Tryd.func9 (by kernel_rfl) rfl) (by simp [Act.eval])
      (extract_any w3.heap.size w.heap.size none A' 0 0 n' c' [] key _ (Ints.nil _ _ _ _) (Nat.le_refl _) (Nat.le_refl _) (by simp [maxLen]) (by omega) (h'.below (b.trans (c0_3.mono b.size))) (b.trans (c0_3.mono b.size)).size hd hd' (by omega) (hT.1.below (b.trans (c0_3.mono b.size)) hT.1.lt) (hT.2.below (b.trans (c0_3.mono b.size)) hT.2.lt)) ?_
    rintro e w4 ⟨rfl, b4⟩
    have c0_4 := c0_3.trans (b4.mono c0_3.size)
    refine ⟨_, rfl, c0_4, ?_⟩
    simp only [Act.put, List.setIfInBounds_toArray, List.set_cons_zero, List.set_cons_succ]
    refine Held.one 34 (by kernel_rfl) ?_
    refine Held.op_make_Row 34 (some 106) 22 5 .u8 1 32 .i64 .i64 rfl rfl rfl rfl Tryd.underlying22 info_u8 rfl rfl (by omega) (by omega) ?_
    intro p34 w5 r34 b5 h34
    have c0_5 := c0_4.trans (b5.mono c0_4.size)
    have c5_5 := Below.refl w5.heap.size w5
    refine ⟨c0_5, ?_⟩
    simp only [Act.put, List.setIfInBounds_toArray, List.set_cons_zero, List.set_cons_succ]
    refine Held.one 36 (by kernel_rfl) ?_
    refine Held.op_call 36 (some 108) 9 #[.slice (some ⟨p34, 0, none⟩) 32 32, (.slice A' n' c')] rfl rfl rfl rfl (enters_of Tryd.func9 (by kernel_rfl) rfl) (by simp [Act.eval])
      (extract_any w5.heap.size w.heap.size _ A' 32 32 n' c' (List.replicate 32 0) key _ (by have := r34.ints (n := 32) (by simp); rw [List.take_of_length_le (by simp)] at this; exact this.below c5_5) c5_5.size (Nat.le_refl _) (by simp [maxLen]) (by omega) (h'.below (b.trans (c0_5.mono b.size))) (b.trans (c0_5.mono b.size)).size hd hd' (by omega) (hT.1.below (b.trans (c0_5.mono b.size)) hT.1.lt) (hT.2.below (b.trans (c0_5.mono b.size)) hT.2.lt)) ?_
    rintro e w6 ⟨rfl, b6⟩
    have c0_6 := c0_5.trans (b6.mono c0_5.size)
    have c5_6 := b6
    refine ⟨_, rfl, c0_6, ?_⟩
    simp only [Act.put, List.setIfInBounds_toArray, List.set_cons_zero, List.set_cons_succ]
    refine Held.take (v := .bool true) 37 (some 109) rfl rfl (by kernel_rfl) (by kernel_rfl) (by kernel_rfl) (fun _ _ _ h => h) rfl (Held.y_eql2 rfl rfl rfl HNZ.out (by kernel_rfl) Tryd.underlying25 Tryd.underlying5 (by kernel_rfl) (tag_length _ _)) c0_6 ?_
    simp only [Act.put, List.setIfInBounds_toArray, List.set_cons_zero, List.set_cons_succ]
    refine Held.take (v := .bool true) 38 (some 110) rfl rfl (by kernel_rfl) (by kernel_rfl) (by kernel_rfl) (fun _ _ _ h => h) rfl (Held.y_pick rfl rfl rfl) c0_6 ?_
    simp only [Act.put, List.setIfInBounds_toArray, List.set_cons_zero, List.set_cons_succ]
    refine Held.take (v := .bool true) 39 (some 10) rfl rfl (by kernel_rfl) (by kernel_rfl) (by kernel_rfl) (fun _ _ _ h => h) rfl (Held.y_assign rfl rfl) c0_6 ?_
    simp only [Act.put, List.setIfInBounds_toArray, List.set_cons_zero, List.set_cons_succ]
    refine wpAnyH_done (by kernel_rfl) ?_ _
    go_wp2_with fail
    go_ret
    exact ⟨rfl, b.trans (c0_6.mono b.size)⟩
  · refine Held.op_make_Row 34 (some 106) 22 5 .u8 1 32 .i64 .i64 rfl rfl rfl rfl Tryd.underlying22 info_u8 rfl rfl (by omega) (by omega) ?_
    intro p34 w4 r34 b4 h34
    have c0_4 := c0_3.trans (b4.mono c0_3.size)
    have c4_4 := Below.refl w4.heap.size w4
    refine ⟨c0_4, ?_⟩
    simp only [Act.put, List.setIfInBounds_toArray, List.set_cons_zero, List.set_cons_succ]
    refine Held.one 33 (by kernel_rfl) ?_
    refine Held.op_call 33 (some 105) 9 #[.slice none 0 0, (.slice A' n' c')] rfl rfl rfl rfl (enters_of Tryd.func9 (by kernel_rfl) rfl) (by simp [Act.eval])
      (extract_any w4.heap.size w.heap.size none A' 0 0 n' c' [] key _ (Ints.nil _ _ _ _) (Nat.le_refl _) (Nat.le_refl _) (by simp [maxLen]) (by omega) (h'.below (b.trans (c0_4.mono b.size))) (b.trans (c0_4.mono b.size)).size hd hd' (by omega) (hT.1.below (b.trans (c0_4.mono b.size)) hT.1.lt) (hT.2.below (b.trans (c0_4.mono b.size)) hT.2.lt)) ?_
    rintro e w5 ⟨rfl, b5⟩
    have c0_5 := c0_4.trans (b5.mono c0_4.size)
    have c4_5 := b5
    refine ⟨_, rfl, c0_5, ?_⟩
    simp only [Act.put, List.setIfInBounds_toArray, List.set_cons_zero, List.set_cons_succ]
    refine Held.one 36 (by kernel_rfl) ?_
    refine Held.op_call 36 (some 108) 9 #[.slice (some ⟨p34, 0, none⟩) 32 32, (.slice A' n' c')] rfl rfl rfl rfl (enters_of Tryd.func9 (by kernel_rfl) rfl) (by simp [Act.eval])
      (extract_any w4.heap.size w.heap.size _ A' 32 32 n' c' (List.replicate 32 0) key _ (by have := r34.ints (n := 32) (by simp); rw [List.take_of_length_le (by simp)] at this; exact this.below c4_5) c4_5.size (Nat.le_refl _) (by simp [maxLen]) (by omega) (h'.below (b.trans (c0_5.mono b.size))) (b.trans (c0_5.mono b.size)).size hd hd' (by omega) (hT.1.below (b.trans (c0_5.mono b.size)) hT.1.lt) (hT.2.below (b.trans (c0_5.mono b.size)) hT.2.lt)) ?_
    rintro e w6 ⟨rfl, b6⟩
    have c0_6 := c0_5.trans (b6.mono c0_5.size)
    have c4_6 := c4_5.trans (b6.mono c4_5.size)
    refine ⟨_, rfl, c0_6, ?_⟩
    simp only [Act.put, List.setIfInBounds_toArray, List.set_cons_zero, List.set_cons_succ]
    refine Held.take (v := .bool true) 37 (some 109) rfl rfl (by kernel_rfl) (by kernel_rfl) (by kernel_rfl) (fun _ _ _ h => h) rfl (Held.y_eql2 rfl rfl rfl HNZ.out (by kernel_rfl) Tryd.underlying25 Tryd.underlying5 (by kernel_rfl) (tag_length _ _)) c0_6 ?_
    simp only [Act.put, List.setIfInBounds_toArray, List.set_cons_zero, List.set_cons_succ]
    refine Held.take (v := .bool true) 38 (some 110) rfl rfl (by kernel_rfl) (by kernel_rfl) (by kernel_rfl) (fun _ _ _ h => h) rfl (Held.y_pick rfl rfl rfl) c0_6 ?_
    simp only [Act.put, List.setIfInBounds_toArray, List.set_cons_zero, List.set_cons_succ]
    refine Held.take (v := .bool true) 39 (some 10) rfl rfl (by kernel_rfl) (by kernel_rfl) (by kernel_rfl) (fun _ _ _ h => h) rfl (Held.y_assign rfl rfl) c0_6 ?_
    simp only [Act.put, List.setIfInBounds_toArray, List.set_cons_zero, List.set_cons_succ]
    refine wpAnyH_done (by kernel_rfl) ?_ _
    go_wp2_with fail
    go_ret
    exact ⟨rfl, b.trans (c0_6.mono b.size)⟩

theorem walk (a0 : Option Addr) (len0 cap0 : Nat) (z0 : List Int) (a1 : Option Addr) (len1 cap1 : Nat) (z1 : List Int) (a2 : Option Addr) (len2 cap2 : Nat) (z2 : List Int) (a3 : Int) (a4 : Int) (w : World) (w0 : IsRow .u8 w a0 len0 cap0 z0) (w1 : IsRow .u8 w a1 len1 cap1 z1) (w2 : IsRow .u8 w a2 len2 cap2 z2) (w3 : (Lit.int .i64 a3).wf = true) (w4 : (Lit.int .i64 a4).wf = true) (hL : laidMetH Tryd.prog laidList w) :
    Calls Tryd.prog 4 #[.slice a0 len0 cap0, .slice a1 len1 cap1, .slice a2 len2 cap2, .int .i64 a3, .int .i64 a4] w fun e w' => e = .returned (.bool true) ∧ Below w.heap.size w w' := by
  obtain ⟨h, hl, hm⟩ := ints_of_row w0
  obtain ⟨h', hl', hm'⟩ := ints_of_row w1
  obtain ⟨h2, hl2, hm2⟩ := ints_of_row w2
  exact start a0 a1 a2 len0 cap0 len1 cap1 len2 cap2 _ _ _ a3 a4 w h hl hm h' hl' hm' h2 hl2 hm2 (sha_of_laid hL)

set_option maxRecDepth 100000 in
theorem door_met (os : Os) (args : Array Value) : laidMetH Tryd.prog laidList ((World.doorLaid Tryd.prog 400 os).forCall (fun _ _ => 0) ⟨#[], args, []⟩).memory :=
  laidMetH_of_parts3 (fuel := 8) (laidMet_of_run' 8 (by kernel_rfl) (by kernel_rfl)) (by kernel_rfl) (by kernel_rfl)

set_option maxRecDepth 100000 in
theorem lifted (os : Os) (started : os.Started) (H : Type) (enc : TypeId × Value → H) :
    ReturnsInHanded {} Tryd.checked os 4 .any (fun w args => (Rows.hkdfShortSpec.pre enc Tryd.prog Tryd.f4 [] false w args ∧ laidMetH Tryd.prog laidList w) ∧ sizedMet enc Tryd.prog Tryd.f4 (OpenSpec.ofChange Rows.hkdfShortSpec) false w args)
      (Rows.hkdfShortSpec.post enc Tryd.prog Tryd.f4 false true false false) := by
  refine returnsInHanded_of_change_and (C := Tryd.checked) (X := fun w _ => laidMetH Tryd.prog laidList w) (fun _ _ _ hh h => h.of_heap hh) own started (by kernel_rfl) Tryd.func4
    (ChangeSpec.witness_shaped (enc := enc) (C := Tryd.checked) (os := os) (X := fun w _ => laidMetH Tryd.prog laidList w) false (World.doorLaid Tryd.prog 400 os) #[.slice none 0 0, .slice none 0 0, .slice none 0 0, .int .i64 0, .int .i64 0] 8 rfl (World.shaped_of_RefB (by kernel_rfl) (by kernel_rfl)) (by kernel_rfl) (by kernel_rfl) (by kernel_rfl) (door_met os _)) ?_
  intro W base args ds gs before hval0 hW _ _ hL _
  have hval : ∀ (j : Nat) t v, Tryd.f4.params[j]? = some t → args[j]? = some v → Value.okWide Tryd.prog W .any base t v := hval0
  have hW' := hW
  obtain ⟨p, q, hA0, hV, rfl, hfz, hnd⟩ := hW
  have hA : DataW.TrodAll enc Tryd.prog W 0 (fun _ => true) true Tryd.f4.params.toList args.toList ds p := hA0
  rw [Tryd.params4] at hA hval
  obtain ⟨v0, vs0, d0, ds0, p0, q0, hargs, rfl, rfl, h0, r0⟩ := trodAll_cons hA
  obtain ⟨v1, vs1, d1, ds1, p1, q1, rfl, rfl, rfl, h1, r1⟩ := trodAll_cons r0
  obtain ⟨v2, vs2, d2, ds2, p2, q2, rfl, rfl, rfl, h2, r2⟩ := trodAll_cons r1
  obtain ⟨v3, vs3, d3, ds3, p3, q3, rfl, rfl, rfl, h3, r3⟩ := trodAll_cons r2
  obtain ⟨v4, vs4, d4, ds4, p4, q4, rfl, rfl, rfl, h4, r4⟩ := trodAll_cons r3
  obtain ⟨rfl, rfl, rfl⟩ := trodAll_nil r4
  obtain rfl : args = #[v0, v1, v2, v3, v4] := by cases args; simp_all
  obtain ⟨rfl, rfl⟩ := trodVars_none hV
  obtain ⟨a0, len0, cap0, rfl⟩ := okWide_slice Tryd.underlying22 (hval 0 22 v0 rfl rfl)
  have k0 := h0
  have lt0 : ∀ x ∈ p0, x.block < W.heap.size := by obtain ⟨m, hm⟩ := k0; exact DataW.trod_lt m _ _ _ hm
  obtain ⟨z0, w0⟩ : ∃ zs, IsRow .u8 W a0 len0 cap0 zs := by
    obtain ⟨fuel, hf⟩ := h0
    rcases open_ints Tryd.underlying22 Tryd.underlying5 (by kernel_rfl) hf with ⟨hcs, _⟩ | ⟨x, l, c, zs, hcs, _, hl, hm, hz, _, hcell, hwz⟩
    · simp [Value.cells] at hcs
      obtain ⟨rfl, rfl, rfl⟩ := hcs
      exact ⟨[], .inl ⟨rfl, rfl, rfl, rfl⟩⟩
    · simp [Value.cells] at hcs
      obtain ⟨rfl, rfl, rfl⟩ := hcs
      exact ⟨zs, .inr ⟨_, rfl, hl, hm, by simpa using hz, hcell, hwz⟩⟩
  obtain ⟨a1, len1, cap1, rfl⟩ := okWide_slice Tryd.underlying22 (hval 1 22 v1 rfl rfl)
  have k1 := h1
  have lt1 : ∀ x ∈ p1, x.block < W.heap.size := by obtain ⟨m, hm⟩ := k1; exact DataW.trod_lt m _ _ _ hm
  obtain ⟨z1, w1⟩ : ∃ zs, IsRow .u8 W a1 len1 cap1 zs := by
    obtain ⟨fuel, hf⟩ := h1
    rcases open_ints Tryd.underlying22 Tryd.underlying5 (by kernel_rfl) hf with ⟨hcs, _⟩ | ⟨x, l, c, zs, hcs, _, hl, hm, hz, _, hcell, hwz⟩
    · simp [Value.cells] at hcs
      obtain ⟨rfl, rfl, rfl⟩ := hcs
      exact ⟨[], .inl ⟨rfl, rfl, rfl, rfl⟩⟩
    · simp [Value.cells] at hcs
      obtain ⟨rfl, rfl, rfl⟩ := hcs
      exact ⟨zs, .inr ⟨_, rfl, hl, hm, by simpa using hz, hcell, hwz⟩⟩
  obtain ⟨a2, len2, cap2, rfl⟩ := okWide_slice Tryd.underlying22 (hval 2 22 v2 rfl rfl)
  have k2 := h2
  have lt2 : ∀ x ∈ p2, x.block < W.heap.size := by obtain ⟨m, hm⟩ := k2; exact DataW.trod_lt m _ _ _ hm
  obtain ⟨z2, w2⟩ : ∃ zs, IsRow .u8 W a2 len2 cap2 zs := by
    obtain ⟨fuel, hf⟩ := h2
    rcases open_ints Tryd.underlying22 Tryd.underlying5 (by kernel_rfl) hf with ⟨hcs, _⟩ | ⟨x, l, c, zs, hcs, _, hl, hm, hz, _, hcell, hwz⟩
    · simp [Value.cells] at hcs
      obtain ⟨rfl, rfl, rfl⟩ := hcs
      exact ⟨[], .inl ⟨rfl, rfl, rfl, rfl⟩⟩
    · simp [Value.cells] at hcs
      obtain ⟨rfl, rfl, rfl⟩ := hcs
      exact ⟨zs, .inr ⟨_, rfl, hl, hm, by simpa using hz, hcell, hwz⟩⟩
  obtain ⟨a3, rfl, rfl, rfl, w3⟩ := open_int Tryd.underlying3 (hval 3 3 v3 rfl rfl) h3
  obtain ⟨a4, rfl, rfl, rfl, w4⟩ := open_int Tryd.underlying3 (hval 4 3 v4 rfl rfl) h4
  clear hA0 hval0
  refine (walk a0 len0 cap0 z0 a1 len1 cap1 z1 a2 len2 cap2 z2 a3 a4 W w0 w1 w2 w3 w4 hL).mono fun e W' ⟨he, bel⟩ => ?_
  subst he
  exact ⟨_, rfl, _, _, _, [], _, [], hW', trodAll_mk1 (shut_bool Tryd.underlying4 _), (trodAll_cons_mk (Below.trod laidOut (by kernel_rfl) (of_decide_eq_true (by kernel_rfl)) k0 bel lt0) (trodAll_cons_mk (Below.trod laidOut (by kernel_rfl) (of_decide_eq_true (by kernel_rfl)) k1 bel lt1) (trodAll_cons_mk (Below.trod laidOut (by kernel_rfl) (of_decide_eq_true (by kernel_rfl)) k2 bel lt2) (trodAll_cons_mk (shut_int Tryd.underlying3 w3) (trodAll_cons_mk (shut_int Tryd.underlying3 w4) trodAll_mk0))))), rfl, bel.frame _, fun h => by cases h⟩

theorem over : Rows.hkdfShortRow.holds Tryd.pinned (OpenSpec.ofChange Rows.hkdfShortSpec) :=
  OpenClaim.holds_of_wide 4 Tryd.f4 rfl rfl rfl rfl rfl rfl rfl ⟨rfl, rfl, rfl, rfl, rfl⟩ rfl rfl rfl rfl rfl (by kernel_rfl) Tryd.func4 (by kernel_rfl)
    (of_decide_eq_true (by kernel_rfl)) (by unfold Func.isWrapper; first | (rw [if_pos (by decide +kernel)]; kernel_rfl) | (rw [if_neg (by decide +kernel)]; exact ⟨rfl, rfl⟩))
    (fun os started H enc _ => lifted os started H enc)

/-- the statement -/
theorem proved : Rows.HkdfShortCardSaid :=
  Claim7.holds_tied_plain_at .later [] [.data, .data] true (true, "32f6b24c69c7a4d5a74b7e76ad39c8f9140722c6a5250b182338480d9edaa433") false
    over (fun _ h => by cases h) (by kernel_rfl) (fun _ h => by cases h) hkdfShort_row_tie rfl ⟨rfl, rfl⟩ (by kernel_rfl) rfl
    (fun f fn hf hfn => by
      obtain rfl : f = 4 := Option.some.inj ((show Tryd.prog.funcNamed "domino/dominolaw04.HkdfShort" = some 4 by kernel_rfl).symm.trans hf) |>.symm
      obtain rfl : fn = Tryd.f4 := (Option.some.inj (Tryd.func4.symm.trans hfn)).symm
      exact ⟨by kernel_rfl, fun j t ht => by
        rw [Tryd.params4] at ht
        have hm : t ∈ [22, 22, 22, 3, 3] := by simpa using Array.mem_of_getElem? ht
        have hall : ([22, 22, 22, 3, 3].all fun u => !Tryd.prog.wantsStandIn u) = true := by kernel_rfl
        exact (show Tryd.prog.wantsStandIn t = false by simpa using List.all_eq_true.1 hall t hm)⟩)
    (by kernel_rfl)
#print axioms proved
end Go.Proofs.YtbfdhbobokfbhaaDoor.hkdfShort
