/-
  The law HkdfKeys of package dominolaw04 returns true for every salt, key, info and number: keys of any salt, key, info, and of any length, are the document's own; what is handed in stays. The tables of package sha hold what the program's text lays.
-/
import Derived.Test.YtbfdhbobokfbhaaDoorRows
import Derived.Test.YtbfdhbobokfbhaaDoorCards
import Derived.Test.YtbfdhbobokfbhaaDoorTie
import Derived.SevenTiedAt
import Derived.WalkKit
import Derived.ProofKit
import Derived.OpenShut
import Derived.ShutString
import Derived.ChangeOld
import Derived.Below
import Derived.LaidMore
import Derived.Stop.Joined
import Derived.Test.YtbfdhbobokfbhaaDoorHkA
import Derived.Test.YtbfdhbobokfbhaaDoorHkR
import Derived.Test.YtbfdhbobokfbhaaDoorLaid
import Derived.Test.YtbfdhbobokfbhaaDoorReg
import Derived.Test.YtbfdhbobokfbhaaDoorKept
namespace Go.Proofs.YtbfdhbobokfbhaaDoor.hkdfKeys
open Go.ChangeShapes Go.WideShapes Go.ChangeAt Go.RowKit
open Go.ChangeMaps (open_string shut_string)
open Go.Shelf Go.Proofs.YtbfdhbobokfbhaaDoor.Mem Go.Proofs.YtbfdhbobokfbhaaDoor.Help Go.Proofs.YtbfdhbobokfbhaaDoor.Sum Go.Proofs.YtbfdhbobokfbhaaDoor.Sha Go.Proofs.YtbfdhbobokfbhaaDoor.Mac Go.Proofs.YtbfdhbobokfbhaaDoor.Hkdf Go.Proofs.YtbfdhbobokfbhaaDoor
set_option linter.unusedVariables false

theorem own : ownKnob Tryd.prog.godebug = none := by kernel_rfl
theorem laidOut : laidOutB Tryd.prog = true := by kernel_rfl

/-- what a slice that came in leads to -/
def IsRow (k : IntKind) (w : World) (a : Option Addr) (len cap : Nat) (zs : List Int) : Prop :=
  (a = none ∧ len = 0 ∧ cap = 0 ∧ zs = []) ∨
  ∃ x, a = some x ∧ len ≤ cap ∧ cap ≤ maxLen ∧ zs.length = cap ∧ (∀ i, i < zs.length → w.cell? (x.add i) = some (.int k (zs.getD i 0))) ∧ ∀ n ∈ zs, (Lit.int k n).wf = true

def laidList : List (String × DataW Unit) := [("domino/sha.start", Rows.laid_domino_sha_start), ("domino/sha.words", Rows.laid_domino_sha_words)]

attribute [local irreducible] wpList Calls

theorem kept_b (B : Nat) (A : Option Addr) (n c g : Nat) (zs : List Int) (f : Int) (w : World) (h : Ints w .u8 B A n zs) (hn : n ≤ 1099511627776) (hr : Row w g 5 .u8 (zs ++ [f, f, f])) :
    Calls Tryd.prog 16 #[.slice (some ⟨g, 0, none⟩) n (n + 3), .slice A n c, .int .u8 f] w fun e w' => e = .returned (.bool true) ∧ Below w.heap.size w w' :=
  (kept_any B A n c g zs f w h hn hr).mono fun _ _ ⟨h1, h2⟩ => ⟨h1, h2.below _⟩

set_option maxRecDepth 100000 in
set_option maxHeartbeats 8000000 in
theorem start_good (A A' A2 : Option Addr) (n c n' c' m c2 : Nat) (salt key info : List Int) (N : Nat) (w : World) (h : Ints w .u8 w.heap.size A n salt) (hc : n ≤ c) (hc' : c ≤ maxLen) (h' : Ints w .u8 w.heap.size A' n' key) (hd : n' ≤ c') (hd' : c' ≤ maxLen)
    (h2 : Ints w .u8 w.heap.size A2 m info) (hmc : m ≤ c2) (hcm : c2 ≤ maxLen) (hT : Tab w 0 Sum.H0 ∧ Tab w 1 Sum.K) (hbn : n ≤ 300) (hbn' : n' ≤ 300) (hbm : m ≤ 300) (hN1 : 1 ≤ N) (hN2 : N ≤ 8160) :
    Calls Tryd.prog 3 #[.slice A n c, .slice A' n' c', .slice A2 m c2, .int .i64 (N : Int)] w fun e w' => e = .returned (.bool true) ∧ Below w.heap.size w w' := by
  have q1 : ¬ (300 : Int) < (n : Int) := by omega
  have q2 : ¬ (300 : Int) < (n' : Int) := by omega
  have q3 : ¬ (300 : Int) < (m : Int) := by omega
  have q4 : ¬ (8161 : Int) < (N : Int) := by omega
  go_enter Tryd.func3, Tryd.ntmps3
  go_wp2_with fail
  refine (own_any _ A2 m c2 info 71 w h2 (Nat.le_refl _) (by omega) rfl).mono ?_
  rintro e w1 ⟨gi, rfl, hgi, ri, b1⟩
  go_wp2_with fail
  refine (extract_any _ _ A A' n c n' c' salt key w1 (h.below b1) b1.size hc hc' (by omega) (h'.below b1) b1.size hd hd' (by omega) (hT.1.below b1 hT.1.lt) (hT.2.below b1 hT.2.lt)).mono ?_
  rintro e w2 ⟨rfl, hb⟩
  have b2 := b1.trans (hb.mono b1.size)
  have ri2 := ri.below hb ri.lt
  obtain ⟨X, hX⟩ : ∃ X, tag salt key = X := ⟨_, rfl⟩
  have hXl : X.length = 32 := by rw [← hX]; exact tag_length _ _
  have hXw : ∀ z ∈ X, (Lit.int .u8 z).wf = true := by rw [← hX]; exact tag_wf _ _
  rw [hX]
  have HX := Lib.hid hX
  have HXL := Lib.hid hXl
  have HXW := Lib.hid hXw
  have l2 := ri2.lt
  have s2 := b2.size
  clear hX hXl hXw hb b1 ri
  go_wp2_with (first
    | (refine wpList_alloc_Row (w := w2) rfl 25 rfl .u8 32 zero_32 ?_; intro w3 r3 g3 z3)
    | (refine wpList_store_RowTo (w := w3) rfl 25 _ _ rfl w2.heap.size rfl 25 .u8 _ X rfl r3 32 info_32 HXL.out (by simp) HXW.out ?_; intro w4 r4 g4 z4)
    | (refine wpList_load_Row (w := w4) rfl 25 _ rfl w2.heap.size rfl 25 .u8 _ r4 32 5 Tryd.underlying25 info_32 HXL.out ?_))
  obtain ⟨gx, hgx⟩ : ∃ gx, w2.heap.size = gx := ⟨_, rfl⟩
  rw [hgx] at r3 r4 g4 l2 s2 ⊢
  have b4 : Below w.heap.size w w4 := (b2.grown g3 (by omega) (by simp)).grown g4 (by have := g3.size; omega) (fun r e => by cases e; omega)
  have ri4 := (ri2.grown g3 (by simp)).grown g4 (by intro e; injection e with e; omega)
  have ii4 := ri4.ints (n := m) (by simp; have := h2.1; omega)
  rw [List.take_left' h2.1] at ii4
  clear r3 g3 g4 z3 z4 b2 ri2 hgx l2 s2
  refine (expand_any X info HXL.out HXW.out _ _ m (m + 3) N w4 ii4 (Nat.le_refl _) (by omega) (by unfold maxLen; omega) (by omega) hN1 hN2 (hT.1.below b4 hT.1.lt) (hT.2.below b4 hT.2.lt)).mono ?_
  rintro e w5 ⟨ga, rfl, hga, ra, hb⟩
  have b5 := b4.trans (hb.mono b4.size)
  have r5 := r4.below hb r4.lt
  have ri5 := ri4.below hb ri4.lt
  clear hb b4 r4 ri4 ii4
  go_wp2_with (refine wpList_load_Row (w := w5) rfl 25 _ rfl gx rfl 25 .u8 _ r5 32 5 Tryd.underlying25 info_32 HXL.out ?_)
  refine (rexpand_any X info HXL.out HXW.out _ A2 m c2 N w5 (h2.below b5) b5.size (by omega) hN1 hN2).mono ?_
  rintro e wz ⟨A5, c5, rfl, h5a, h5b, i5, hb⟩
  have b := b5.trans (hb.mono b5.size)
  have rx := r5.below hb r5.lt
  have rowi := ri5.below hb ri5.lt
  have raz := ra.below hb ra.lt
  have ia := raz.ints (n := N) (by rw [out_length _ _ _ hN2]; omega)
  rw [List.take_of_length_le (by rw [out_length _ _ _ hN2]; omega)] at ia
  clear hb b5 r5 ri5 ra raz
  go_wp2_with fail
  have HKL := Lib.hid (hkey_length salt key info)
  refine wp_region_held (S := fun W => Below wz.heap.size wz W) (by kernel_rfl) ?_
  change wpAnyH _ _ _ _ _ _ _ _ wz.drew
  have c0_0 := (Below.refl wz.heap.size wz).drew
  refine Held.one 0 (by kernel_rfl) ?_
  refine Held.op_call 0 (some 50) 7 #[] rfl rfl rfl rfl (enters_of Tryd.func7 (by kernel_rfl) rfl) (by simp [Act.eval])
    (awake4_any _ (hT.1.below (b.trans (c0_0.mono b.size)) hT.1.lt) (hT.2.below (b.trans (c0_0.mono b.size)) hT.2.lt)) ?_
  rintro e w1 ⟨rfl, b1⟩
  have c0_1 := c0_0.trans (b1.mono c0_0.size)
  refine ⟨_, rfl, c0_1, ?_⟩
  simp only [Act.put, List.setIfInBounds_toArray, List.set_cons_zero, List.set_cons_succ]
  refine Held.take (v := .bool true) 1 (some 51) rfl rfl (by kernel_rfl) (by kernel_rfl) (by kernel_rfl) (fun _ _ _ h => h) rfl (Held.y_move rfl rfl) c0_1 ?_
  simp only [Act.put, List.setIfInBounds_toArray, List.set_cons_zero, List.set_cons_succ]
  refine Held.take (v := .agg (arr .u8 X)) 2 (some 52) rfl rfl (by kernel_rfl) (by kernel_rfl) (by kernel_rfl) (fun _ _ _ h => h) rfl (Held.y_load_Row rfl rfl Tryd.underlying25 info_32 HXL.out (fun W h => rx.below h rx.lt)) c0_1 ?_
  simp only [Act.put, List.setIfInBounds_toArray, List.set_cons_zero, List.set_cons_succ]
  refine Held.take (v := .slice A n c) 3 (some 53) rfl rfl (by kernel_rfl) (by kernel_rfl) (by kernel_rfl) (fun _ _ _ h => h) rfl (Held.y_move rfl rfl) c0_1 ?_
  simp only [Act.put, List.setIfInBounds_toArray, List.set_cons_zero, List.set_cons_succ]
  refine Held.take (v := (.slice A' n' c')) 4 (some 54) rfl rfl (by kernel_rfl) (by kernel_rfl) (by kernel_rfl) (fun _ _ _ h => h) rfl (Held.y_move rfl rfl) c0_1 ?_
  simp only [Act.put, List.setIfInBounds_toArray, List.set_cons_zero, List.set_cons_succ]
  refine Held.one 5 (by kernel_rfl) ?_
  refine Held.op_call 5 (some 55) 12 #[.slice A n c, (.slice A' n' c')] rfl rfl rfl rfl (enters_of Tryd.func12 (by kernel_rfl) rfl) (by simp [Act.eval])
    (rextract_any w.heap.size w.heap.size A A' n c n' c' salt key _ (h.below (b.trans (c0_1.mono b.size))) (b.trans (c0_1.mono b.size)).size (by omega) (h'.below (b.trans (c0_1.mono b.size))) (b.trans (c0_1.mono b.size)).size (by omega)) ?_
  rw [HX.out]
  rintro e w2 ⟨rfl, b2⟩
  have c0_2 := c0_1.trans (b2.mono c0_1.size)
  refine ⟨_, rfl, c0_2, ?_⟩
  simp only [Act.put, List.setIfInBounds_toArray, List.set_cons_zero, List.set_cons_succ]
  refine Held.take (v := .bool true) 6 (some 56) rfl rfl (by kernel_rfl) (by kernel_rfl) (by kernel_rfl) (fun _ _ _ h => h) rfl (Held.y_eql rfl rfl rfl (by kernel_rfl) Tryd.underlying25 Tryd.underlying5 (by kernel_rfl) HXL.out) c0_2 ?_
  simp only [Act.put, List.setIfInBounds_toArray, List.set_cons_zero, List.set_cons_succ]
  refine Held.take (v := .bool true) 7 (some 57) rfl rfl (by kernel_rfl) (by kernel_rfl) (by kernel_rfl) (fun _ _ _ h => h) rfl (Held.y_pick rfl rfl rfl) c0_2 ?_
  simp only [Act.put, List.setIfInBounds_toArray, List.set_cons_zero, List.set_cons_succ]
  refine Held.take (v := .bool true) 8 (some 58) rfl rfl (by kernel_rfl) (by kernel_rfl) (by kernel_rfl) (fun _ _ _ h => h) rfl (Held.y_move rfl rfl) c0_2 ?_
  simp only [Act.put, List.setIfInBounds_toArray, List.set_cons_zero, List.set_cons_succ]
  refine Held.take (v := .slice (some ⟨ga, 0, none⟩) N N) 9 (some 59) rfl rfl (by kernel_rfl) (by kernel_rfl) (by kernel_rfl) (fun _ _ _ h => h) rfl (Held.y_move rfl rfl) c0_2 ?_
  simp only [Act.put, List.setIfInBounds_toArray, List.set_cons_zero, List.set_cons_succ]
  refine Held.take (v := .slice A5 N c5) 10 (some 60) rfl rfl (by kernel_rfl) (by kernel_rfl) (by kernel_rfl) (fun _ _ _ h => h) rfl (Held.y_move rfl rfl) c0_2 ?_
  simp only [Act.put, List.setIfInBounds_toArray, List.set_cons_zero, List.set_cons_succ]
  refine Held.one 11 (by kernel_rfl) ?_
  refine Held.op_call 11 (some 61) 13 #[.slice (some ⟨ga, 0, none⟩) N N, .slice A5 N c5] rfl rfl rfl rfl (enters_of Tryd.func13 (by kernel_rfl) rfl) (by simp [Act.eval])
    (Held.bytes_same _ _ _ _ _ _ _ _ _ _ _ (ia.below c0_2) (i5.below c0_2) rfl) ?_
  rintro e w3 ⟨rfl, b3⟩
  have c0_3 := c0_2.trans (b3.mono c0_2.size)
  refine ⟨_, rfl, c0_3, ?_⟩
  simp only [Act.put, List.setIfInBounds_toArray, List.set_cons_zero, List.set_cons_succ]
  refine Held.take (v := .bool true) 12 (some 62) rfl rfl (by kernel_rfl) (by kernel_rfl) (by kernel_rfl) (fun _ _ _ h => h) rfl (Held.y_pick rfl rfl rfl) c0_3 ?_
  simp only [Act.put, List.setIfInBounds_toArray, List.set_cons_zero, List.set_cons_succ]
  refine Held.take (v := .bool true) 13 (some 63) rfl rfl (by kernel_rfl) (by kernel_rfl) (by kernel_rfl) (fun _ _ _ h => h) rfl (Held.y_move rfl rfl) c0_3 ?_
  simp only [Act.put, List.setIfInBounds_toArray, List.set_cons_zero, List.set_cons_succ]
  refine Held.take (v := .int .i64 0) 14 (some 64) rfl rfl (by kernel_rfl) (by kernel_rfl) (by kernel_rfl) (fun _ _ _ h => h) rfl (Held.y_move rfl rfl) c0_3 ?_
  simp only [Act.put, List.setIfInBounds_toArray, List.set_cons_zero, List.set_cons_succ]
  refine Held.take (v := .int .i64 0) 15 (some 65) rfl rfl (by kernel_rfl) (by kernel_rfl) (by kernel_rfl) (fun _ _ _ h => h) rfl (Held.y_move rfl rfl) c0_3 ?_
  simp only [Act.put, List.setIfInBounds_toArray, List.set_cons_zero, List.set_cons_succ]
  refine Held.take (v := .bool true) 16 (some 66) rfl rfl (by kernel_rfl) (by kernel_rfl) (by kernel_rfl) (fun _ _ _ h => h) rfl (Held.y_eqi rfl rfl rfl) c0_3 ?_
  simp only [Act.put, List.setIfInBounds_toArray, List.set_cons_zero, List.set_cons_succ]
  refine Held.take (v := .bool true) 17 (some 67) rfl rfl (by kernel_rfl) (by kernel_rfl) (by kernel_rfl) (fun _ _ _ h => h) rfl (Held.y_pick rfl rfl rfl) c0_3 ?_
  simp only [Act.put, List.setIfInBounds_toArray, List.set_cons_zero, List.set_cons_succ]
  refine Held.take (v := .bool true) 18 (some 68) rfl rfl (by kernel_rfl) (by kernel_rfl) (by kernel_rfl) (fun _ _ _ h => h) rfl (Held.y_move rfl rfl) c0_3 ?_
  simp only [Act.put, List.setIfInBounds_toArray, List.set_cons_zero, List.set_cons_succ]
  refine Held.take (v := .slice A n c) 19 (some 69) rfl rfl (by kernel_rfl) (by kernel_rfl) (by kernel_rfl) (fun _ _ _ h => h) rfl (Held.y_move rfl rfl) c0_3 ?_
  simp only [Act.put, List.setIfInBounds_toArray, List.set_cons_zero, List.set_cons_succ]
  refine Held.take (v := (.slice A' n' c')) 20 (some 70) rfl rfl (by kernel_rfl) (by kernel_rfl) (by kernel_rfl) (fun _ _ _ h => h) rfl (Held.y_move rfl rfl) c0_3 ?_
  simp only [Act.put, List.setIfInBounds_toArray, List.set_cons_zero, List.set_cons_succ]
  refine Held.take (v := .slice A2 m c2) 21 (some 71) rfl rfl (by kernel_rfl) (by kernel_rfl) (by kernel_rfl) (fun _ _ _ h => h) rfl (Held.y_move rfl rfl) c0_3 ?_
  simp only [Act.put, List.setIfInBounds_toArray, List.set_cons_zero, List.set_cons_succ]
  refine Held.take (v := .slice A n c) 23 (some 73) rfl rfl (by kernel_rfl) (by kernel_rfl) (by kernel_rfl) (fun _ _ _ h => h) rfl (Held.y_move rfl rfl) c0_3 ?_
  simp only [Act.put, List.setIfInBounds_toArray, List.set_cons_zero, List.set_cons_succ]
  refine Held.take (v := (.slice A' n' c')) 24 (some 74) rfl rfl (by kernel_rfl) (by kernel_rfl) (by kernel_rfl) (fun _ _ _ h => h) rfl (Held.y_move rfl rfl) c0_3 ?_
  simp only [Act.put, List.setIfInBounds_toArray, List.set_cons_zero, List.set_cons_succ]
  refine Held.take (v := .slice A2 m c2) 25 (some 75) rfl rfl (by kernel_rfl) (by kernel_rfl) (by kernel_rfl) (fun _ _ _ h => h) rfl (Held.y_move rfl rfl) c0_3 ?_
  simp only [Act.put, List.setIfInBounds_toArray, List.set_cons_zero, List.set_cons_succ]
  refine Held.one 22 (by kernel_rfl) ?_
  refine Held.op_call 22 (some 72) 14 #[.slice A n c, (.slice A' n' c'), .slice A2 m c2] rfl rfl rfl rfl (enters_of Tryd.func14 (by kernel_rfl) rfl) (by simp [Act.eval])
    (key_any w.heap.size w.heap.size w.heap.size A A' A2 n c n' c' m c2 salt key info _ (h.below (b.trans (c0_3.mono b.size))) (b.trans (c0_3.mono b.size)).size hc hc' (by omega) (h'.below (b.trans (c0_3.mono b.size))) (b.trans (c0_3.mono b.size)).size hd hd' (by omega) (h2.below (b.trans (c0_3.mono b.size))) (b.trans (c0_3.mono b.size)).size hmc hcm (by omega) (hT.1.below (b.trans (c0_3.mono b.size)) hT.1.lt) (hT.2.below (b.trans (c0_3.mono b.size)) hT.2.lt)) ?_
  rintro e w4 ⟨rfl, b4⟩
  have c0_4 := c0_3.trans (b4.mono c0_3.size)
  refine ⟨_, rfl, c0_4, ?_⟩
  simp only [Act.put, List.setIfInBounds_toArray, List.set_cons_zero, List.set_cons_succ]
  refine Held.one 26 (by kernel_rfl) ?_
  refine Held.op_call 26 (some 76) 15 #[.slice A n c, (.slice A' n' c'), .slice A2 m c2] rfl rfl rfl rfl (enters_of Tryd.func15 (by kernel_rfl) rfl) (by simp [Act.eval])
    (rkey_any w.heap.size w.heap.size w.heap.size A A' A2 n c n' c' m c2 salt key info _ (h.below (b.trans (c0_4.mono b.size))) (b.trans (c0_4.mono b.size)).size (by omega) (h'.below (b.trans (c0_4.mono b.size))) (b.trans (c0_4.mono b.size)).size (by omega) (h2.below (b.trans (c0_4.mono b.size))) (b.trans (c0_4.mono b.size)).size (by omega)) ?_
  rintro e w5 ⟨rfl, b5⟩
  have c0_5 := c0_4.trans (b5.mono c0_4.size)
  refine ⟨_, rfl, c0_5, ?_⟩
  simp only [Act.put, List.setIfInBounds_toArray, List.set_cons_zero, List.set_cons_succ]
  refine Held.take (v := .bool true) 27 (some 77) rfl rfl (by kernel_rfl) (by kernel_rfl) (by kernel_rfl) (fun _ _ _ h => h) rfl (Held.y_eql rfl rfl rfl (by kernel_rfl) Tryd.underlying25 Tryd.underlying5 (by kernel_rfl) HKL.out) c0_5 ?_
  simp only [Act.put, List.setIfInBounds_toArray, List.set_cons_zero, List.set_cons_succ]
  refine Held.take (v := .bool true) 28 (some 78) rfl rfl (by kernel_rfl) (by kernel_rfl) (by kernel_rfl) (fun _ _ _ h => h) rfl (Held.y_pick rfl rfl rfl) c0_5 ?_
  simp only [Act.put, List.setIfInBounds_toArray, List.set_cons_zero, List.set_cons_succ]
  refine Held.take (v := .bool true) 29 (some 79) rfl rfl (by kernel_rfl) (by kernel_rfl) (by kernel_rfl) (fun _ _ _ h => h) rfl (Held.y_move rfl rfl) c0_5 ?_
  simp only [Act.put, List.setIfInBounds_toArray, List.set_cons_zero, List.set_cons_succ]
  refine Held.take (v := .slice (some ⟨gi, 0, none⟩) m (m + 3)) 30 (some 80) rfl rfl (by kernel_rfl) (by kernel_rfl) (by kernel_rfl) (fun _ _ _ h => h) rfl (Held.y_move rfl rfl) c0_5 ?_
  simp only [Act.put, List.setIfInBounds_toArray, List.set_cons_zero, List.set_cons_succ]
  refine Held.take (v := .slice A2 m c2) 31 (some 81) rfl rfl (by kernel_rfl) (by kernel_rfl) (by kernel_rfl) (fun _ _ _ h => h) rfl (Held.y_move rfl rfl) c0_5 ?_
  simp only [Act.put, List.setIfInBounds_toArray, List.set_cons_zero, List.set_cons_succ]
  refine Held.one 32 (by kernel_rfl) ?_
  refine Held.op_call 32 (some 82) 16 #[.slice (some ⟨gi, 0, none⟩) m (m + 3), .slice A2 m c2, .int .u8 71] rfl rfl rfl rfl (enters_of Tryd.func16 (by kernel_rfl) rfl) (by simp [Act.eval])
    (kept_b _ A2 m c2 gi info 71 _ (h2.below (b.trans (c0_5.mono b.size))) (by omega) (rowi.below c0_5 rowi.lt)) ?_
  rintro e w6 ⟨rfl, b6⟩
  have c0_6 := c0_5.trans (b6.mono c0_5.size)
  refine ⟨_, rfl, c0_6, ?_⟩
  simp only [Act.put, List.setIfInBounds_toArray, List.set_cons_zero, List.set_cons_succ]
  refine Held.take (v := .bool true) 33 (some 83) rfl rfl (by kernel_rfl) (by kernel_rfl) (by kernel_rfl) (fun _ _ _ h => h) rfl (Held.y_pick rfl rfl rfl) c0_6 ?_
  simp only [Act.put, List.setIfInBounds_toArray, List.set_cons_zero, List.set_cons_succ]
  refine Held.take (v := .bool true) 34 (some 8) rfl rfl (by kernel_rfl) (by kernel_rfl) (by kernel_rfl) (fun _ _ _ h => h) rfl (Held.y_assign rfl rfl) c0_6 ?_
  simp only [Act.put, List.setIfInBounds_toArray, List.set_cons_zero, List.set_cons_succ]
  refine wpAnyH_done (by kernel_rfl) ?_ _
  go_wp2_with fail
  go_ret
  exact ⟨rfl, b.trans (c0_6.mono b.size)⟩

set_option maxRecDepth 100000 in
set_option maxHeartbeats 8000000 in
theorem start_low (A A' A2 : Option Addr) (n c n' c' m c2 : Nat) (salt key info : List Int) (x : Int) (w : World) (h : Ints w .u8 w.heap.size A n salt) (hc : n ≤ c) (hc' : c ≤ maxLen) (h' : Ints w .u8 w.heap.size A' n' key) (hd : n' ≤ c') (hd' : c' ≤ maxLen)
    (h2 : Ints w .u8 w.heap.size A2 m info) (hmc : m ≤ c2) (hcm : c2 ≤ maxLen) (hT : Tab w 0 Sum.H0 ∧ Tab w 1 Sum.K) (hbn : n ≤ 300) (hbn' : n' ≤ 300) (hbm : m ≤ 300) (hx : x < 1 ∨ x = 8161) :
    Calls Tryd.prog 3 #[.slice A n c, .slice A' n' c', .slice A2 m c2, .int .i64 x] w fun e w' => e = .returned (.bool true) ∧ Below w.heap.size w w' := by
  have q1 : ¬ (300 : Int) < (n : Int) := by omega
  have q2 : ¬ (300 : Int) < (n' : Int) := by omega
  have q3 : ¬ (300 : Int) < (m : Int) := by omega
  have q4 : ¬ (8161 : Int) < x := by omega
  go_enter Tryd.func3, Tryd.ntmps3
  go_wp2_with fail
  refine (own_any _ A2 m c2 info 71 w h2 (Nat.le_refl _) (by omega) rfl).mono ?_
  rintro e w1 ⟨gi, rfl, hgi, ri, b1⟩
  go_wp2_with fail
  refine (extract_any _ _ A A' n c n' c' salt key w1 (h.below b1) b1.size hc hc' (by omega) (h'.below b1) b1.size hd hd' (by omega) (hT.1.below b1 hT.1.lt) (hT.2.below b1 hT.2.lt)).mono ?_
  rintro e w2 ⟨rfl, hb⟩
  have b2 := b1.trans (hb.mono b1.size)
  have ri2 := ri.below hb ri.lt
  obtain ⟨X, hX⟩ : ∃ X, tag salt key = X := ⟨_, rfl⟩
  have hXl : X.length = 32 := by rw [← hX]; exact tag_length _ _
  have hXw : ∀ z ∈ X, (Lit.int .u8 z).wf = true := by rw [← hX]; exact tag_wf _ _
  rw [hX]
  have HX := Lib.hid hX
  have HXL := Lib.hid hXl
  have HXW := Lib.hid hXw
  have l2 := ri2.lt
  have s2 := b2.size
  clear hX hXl hXw hb b1 ri
  go_wp2_with (first
    | (refine wpList_alloc_Row (w := w2) rfl 25 rfl .u8 32 zero_32 ?_; intro w3 r3 g3 z3)
    | (refine wpList_store_RowTo (w := w3) rfl 25 _ _ rfl w2.heap.size rfl 25 .u8 _ X rfl r3 32 info_32 HXL.out (by simp) HXW.out ?_; intro w4 r4 g4 z4)
    | (refine wpList_load_Row (w := w4) rfl 25 _ rfl w2.heap.size rfl 25 .u8 _ r4 32 5 Tryd.underlying25 info_32 HXL.out ?_))
  obtain ⟨gx, hgx⟩ : ∃ gx, w2.heap.size = gx := ⟨_, rfl⟩
  rw [hgx] at r3 r4 g4 l2 s2 ⊢
  have b4 : Below w.heap.size w w4 := (b2.grown g3 (by omega) (by simp)).grown g4 (by have := g3.size; omega) (fun r e => by cases e; omega)
  have ri4 := (ri2.grown g3 (by simp)).grown g4 (by intro e; injection e with e; omega)
  have ii4 := ri4.ints (n := m) (by simp; have := h2.1; omega)
  rw [List.take_left' h2.1] at ii4
  clear r3 g3 g4 z3 z4 b2 ri2 hgx l2 s2
  refine (expand_bad X HXW.out _ m (m + 3) x w4 (by omega)).mono ?_
  rintro e w5 ⟨rfl, hb⟩
  have b5 := b4.trans (hb.mono b4.size)
  have r5 := r4.below hb r4.lt
  have ri5 := ri4.below hb ri4.lt
  clear hb b4 r4 ri4 ii4
  go_wp2_with (refine wpList_load_Row (w := w5) rfl 25 _ rfl gx rfl 25 .u8 _ r5 32 5 Tryd.underlying25 info_32 HXL.out ?_)
  refine (rexpand_bad X HXW.out A2 m c2 x w5 (by omega)).mono ?_
  rintro e wz ⟨rfl, hb⟩
  have b := b5.trans (hb.mono b5.size)
  have rx := r5.below hb r5.lt
  have rowi := ri5.below hb ri5.lt
  clear hb b5 r5 ri5
  go_wp2_with fail
  have HKL := Lib.hid (hkey_length salt key info)
  refine wp_region_held (S := fun W => Below wz.heap.size wz W) (by kernel_rfl) ?_
  change wpAnyH _ _ _ _ _ _ _ _ wz.drew
  have c0_0 := (Below.refl wz.heap.size wz).drew
  refine Held.one 0 (by kernel_rfl) ?_
  refine Held.op_call 0 (some 50) 7 #[] rfl rfl rfl rfl (enters_of Tryd.func7 (by kernel_rfl) rfl) (by simp [Act.eval])
    (awake4_any _ (hT.1.below (b.trans (c0_0.mono b.size)) hT.1.lt) (hT.2.below (b.trans (c0_0.mono b.size)) hT.2.lt)) ?_
  rintro e w1 ⟨rfl, b1⟩
  have c0_1 := c0_0.trans (b1.mono c0_0.size)
  refine ⟨_, rfl, c0_1, ?_⟩
  simp only [Act.put, List.setIfInBounds_toArray, List.set_cons_zero, List.set_cons_succ]
  refine Held.take (v := .bool true) 1 (some 51) rfl rfl (by kernel_rfl) (by kernel_rfl) (by kernel_rfl) (fun _ _ _ h => h) rfl (Held.y_move rfl rfl) c0_1 ?_
  simp only [Act.put, List.setIfInBounds_toArray, List.set_cons_zero, List.set_cons_succ]
  refine Held.take (v := .agg (arr .u8 X)) 2 (some 52) rfl rfl (by kernel_rfl) (by kernel_rfl) (by kernel_rfl) (fun _ _ _ h => h) rfl (Held.y_load_Row rfl rfl Tryd.underlying25 info_32 HXL.out (fun W h => rx.below h rx.lt)) c0_1 ?_
  simp only [Act.put, List.setIfInBounds_toArray, List.set_cons_zero, List.set_cons_succ]
  refine Held.take (v := .slice A n c) 3 (some 53) rfl rfl (by kernel_rfl) (by kernel_rfl) (by kernel_rfl) (fun _ _ _ h => h) rfl (Held.y_move rfl rfl) c0_1 ?_
  simp only [Act.put, List.setIfInBounds_toArray, List.set_cons_zero, List.set_cons_succ]
  refine Held.take (v := (.slice A' n' c')) 4 (some 54) rfl rfl (by kernel_rfl) (by kernel_rfl) (by kernel_rfl) (fun _ _ _ h => h) rfl (Held.y_move rfl rfl) c0_1 ?_
  simp only [Act.put, List.setIfInBounds_toArray, List.set_cons_zero, List.set_cons_succ]
  refine Held.one 5 (by kernel_rfl) ?_
  refine Held.op_call 5 (some 55) 12 #[.slice A n c, (.slice A' n' c')] rfl rfl rfl rfl (enters_of Tryd.func12 (by kernel_rfl) rfl) (by simp [Act.eval])
    (rextract_any w.heap.size w.heap.size A A' n c n' c' salt key _ (h.below (b.trans (c0_1.mono b.size))) (b.trans (c0_1.mono b.size)).size (by omega) (h'.below (b.trans (c0_1.mono b.size))) (b.trans (c0_1.mono b.size)).size (by omega)) ?_
  rw [HX.out]
  rintro e w2 ⟨rfl, b2⟩
  have c0_2 := c0_1.trans (b2.mono c0_1.size)
  refine ⟨_, rfl, c0_2, ?_⟩
  simp only [Act.put, List.setIfInBounds_toArray, List.set_cons_zero, List.set_cons_succ]
  refine Held.take (v := .bool true) 6 (some 56) rfl rfl (by kernel_rfl) (by kernel_rfl) (by kernel_rfl) (fun _ _ _ h => h) rfl (Held.y_eql rfl rfl rfl (by kernel_rfl) Tryd.underlying25 Tryd.underlying5 (by kernel_rfl) HXL.out) c0_2 ?_
  simp only [Act.put, List.setIfInBounds_toArray, List.set_cons_zero, List.set_cons_succ]
  refine Held.take (v := .bool true) 7 (some 57) rfl rfl (by kernel_rfl) (by kernel_rfl) (by kernel_rfl) (fun _ _ _ h => h) rfl (Held.y_pick rfl rfl rfl) c0_2 ?_
  simp only [Act.put, List.setIfInBounds_toArray, List.set_cons_zero, List.set_cons_succ]
  refine Held.take (v := .bool true) 8 (some 58) rfl rfl (by kernel_rfl) (by kernel_rfl) (by kernel_rfl) (fun _ _ _ h => h) rfl (Held.y_move rfl rfl) c0_2 ?_
  simp only [Act.put, List.setIfInBounds_toArray, List.set_cons_zero, List.set_cons_succ]
  refine Held.take (v := .slice none 0 0) 9 (some 59) rfl rfl (by kernel_rfl) (by kernel_rfl) (by kernel_rfl) (fun _ _ _ h => h) rfl (Held.y_move rfl rfl) c0_2 ?_
  simp only [Act.put, List.setIfInBounds_toArray, List.set_cons_zero, List.set_cons_succ]
  refine Held.take (v := .slice none 0 0) 10 (some 60) rfl rfl (by kernel_rfl) (by kernel_rfl) (by kernel_rfl) (fun _ _ _ h => h) rfl (Held.y_move rfl rfl) c0_2 ?_
  simp only [Act.put, List.setIfInBounds_toArray, List.set_cons_zero, List.set_cons_succ]
  refine Held.one 11 (by kernel_rfl) ?_
  refine Held.op_call 11 (some 61) 13 #[.slice none 0 0, .slice none 0 0] rfl rfl rfl rfl (enters_of Tryd.func13 (by kernel_rfl) rfl) (by simp [Act.eval])
    (Held.bytes_same _ _ _ _ _ _ _ _ [] [] _ (Ints.nil _ _ 0 _) (Ints.nil _ _ 0 _) rfl) ?_
  rintro e w3 ⟨rfl, b3⟩
  have c0_3 := c0_2.trans (b3.mono c0_2.size)
  refine ⟨_, rfl, c0_3, ?_⟩
  simp only [Act.put, List.setIfInBounds_toArray, List.set_cons_zero, List.set_cons_succ]
  refine Held.take (v := .bool true) 12 (some 62) rfl rfl (by kernel_rfl) (by kernel_rfl) (by kernel_rfl) (fun _ _ _ h => h) rfl (Held.y_pick rfl rfl rfl) c0_3 ?_
  simp only [Act.put, List.setIfInBounds_toArray, List.set_cons_zero, List.set_cons_succ]
  refine Held.take (v := .bool true) 13 (some 63) rfl rfl (by kernel_rfl) (by kernel_rfl) (by kernel_rfl) (fun _ _ _ h => h) rfl (Held.y_move rfl rfl) c0_3 ?_
  simp only [Act.put, List.setIfInBounds_toArray, List.set_cons_zero, List.set_cons_succ]
  refine Held.take (v := .int .i64 1) 14 (some 64) rfl rfl (by kernel_rfl) (by kernel_rfl) (by kernel_rfl) (fun _ _ _ h => h) rfl (Held.y_move rfl rfl) c0_3 ?_
  simp only [Act.put, List.setIfInBounds_toArray, List.set_cons_zero, List.set_cons_succ]
  refine Held.take (v := .int .i64 1) 15 (some 65) rfl rfl (by kernel_rfl) (by kernel_rfl) (by kernel_rfl) (fun _ _ _ h => h) rfl (Held.y_move rfl rfl) c0_3 ?_
  simp only [Act.put, List.setIfInBounds_toArray, List.set_cons_zero, List.set_cons_succ]
  refine Held.take (v := .bool true) 16 (some 66) rfl rfl (by kernel_rfl) (by kernel_rfl) (by kernel_rfl) (fun _ _ _ h => h) rfl (Held.y_eqi rfl rfl rfl) c0_3 ?_
  simp only [Act.put, List.setIfInBounds_toArray, List.set_cons_zero, List.set_cons_succ]
  refine Held.take (v := .bool true) 17 (some 67) rfl rfl (by kernel_rfl) (by kernel_rfl) (by kernel_rfl) (fun _ _ _ h => h) rfl (Held.y_pick rfl rfl rfl) c0_3 ?_
  simp only [Act.put, List.setIfInBounds_toArray, List.set_cons_zero, List.set_cons_succ]
  refine Held.take (v := .bool true) 18 (some 68) rfl rfl (by kernel_rfl) (by kernel_rfl) (by kernel_rfl) (fun _ _ _ h => h) rfl (Held.y_move rfl rfl) c0_3 ?_
  simp only [Act.put, List.setIfInBounds_toArray, List.set_cons_zero, List.set_cons_succ]
  refine Held.take (v := .slice A n c) 19 (some 69) rfl rfl (by kernel_rfl) (by kernel_rfl) (by kernel_rfl) (fun _ _ _ h => h) rfl (Held.y_move rfl rfl) c0_3 ?_
  simp only [Act.put, List.setIfInBounds_toArray, List.set_cons_zero, List.set_cons_succ]
  refine Held.take (v := (.slice A' n' c')) 20 (some 70) rfl rfl (by kernel_rfl) (by kernel_rfl) (by kernel_rfl) (fun _ _ _ h => h) rfl (Held.y_move rfl rfl) c0_3 ?_
  simp only [Act.put, List.setIfInBounds_toArray, List.set_cons_zero, List.set_cons_succ]
  refine Held.take (v := .slice A2 m c2) 21 (some 71) rfl rfl (by kernel_rfl) (by kernel_rfl) (by kernel_rfl) (fun _ _ _ h => h) rfl (Held.y_move rfl rfl) c0_3 ?_
  simp only [Act.put, List.setIfInBounds_toArray, List.set_cons_zero, List.set_cons_succ]
  refine Held.take (v := .slice A n c) 23 (some 73) rfl rfl (by kernel_rfl) (by kernel_rfl) (by kernel_rfl) (fun _ _ _ h => h) rfl (Held.y_move rfl rfl) c0_3 ?_
  simp only [Act.put, List.setIfInBounds_toArray, List.set_cons_zero, List.set_cons_succ]
  refine Held.take (v := (.slice A' n' c')) 24 (some 74) rfl rfl (by kernel_rfl) (by kernel_rfl) (by kernel_rfl) (fun _ _ _ h => h) rfl (Held.y_move rfl rfl) c0_3 ?_
  simp only [Act.put, List.setIfInBounds_toArray, List.set_cons_zero, List.set_cons_succ]
  refine Held.take (v := .slice A2 m c2) 25 (some 75) rfl rfl (by kernel_rfl) (by kernel_rfl) (by kernel_rfl) (fun _ _ _ h => h) rfl (Held.y_move rfl rfl) c0_3 ?_
  simp only [Act.put, List.setIfInBounds_toArray, List.set_cons_zero, List.set_cons_succ]
  refine Held.one 22 (by kernel_rfl) ?_
  refine Held.op_call 22 (some 72) 14 #[.slice A n c, (.slice A' n' c'), .slice A2 m c2] rfl rfl rfl rfl (enters_of Tryd.func14 (by kernel_rfl) rfl) (by simp [Act.eval])
    (key_any w.heap.size w.heap.size w.heap.size A A' A2 n c n' c' m c2 salt key info _ (h.below (b.trans (c0_3.mono b.size))) (b.trans (c0_3.mono b.size)).size hc hc' (by omega) (h'.below (b.trans (c0_3.mono b.size))) (b.trans (c0_3.mono b.size)).size hd hd' (by omega) (h2.below (b.trans (c0_3.mono b.size))) (b.trans (c0_3.mono b.size)).size hmc hcm (by omega) (hT.1.below (b.trans (c0_3.mono b.size)) hT.1.lt) (hT.2.below (b.trans (c0_3.mono b.size)) hT.2.lt)) ?_
  rintro e w4 ⟨rfl, b4⟩
  have c0_4 := c0_3.trans (b4.mono c0_3.size)
  refine ⟨_, rfl, c0_4, ?_⟩
  simp only [Act.put, List.setIfInBounds_toArray, List.set_cons_zero, List.set_cons_succ]
  refine Held.one 26 (by kernel_rfl) ?_
  refine Held.op_call 26 (some 76) 15 #[.slice A n c, (.slice A' n' c'), .slice A2 m c2] rfl rfl rfl rfl (enters_of Tryd.func15 (by kernel_rfl) rfl) (by simp [Act.eval])
    (rkey_any w.heap.size w.heap.size w.heap.size A A' A2 n c n' c' m c2 salt key info _ (h.below (b.trans (c0_4.mono b.size))) (b.trans (c0_4.mono b.size)).size (by omega) (h'.below (b.trans (c0_4.mono b.size))) (b.trans (c0_4.mono b.size)).size (by omega) (h2.below (b.trans (c0_4.mono b.size))) (b.trans (c0_4.mono b.size)).size (by omega)) ?_
  rintro e w5 ⟨rfl, b5⟩
  have c0_5 := c0_4.trans (b5.mono c0_4.size)
  refine ⟨_, rfl, c0_5, ?_⟩
  simp only [Act.put, List.setIfInBounds_toArray, List.set_cons_zero, List.set_cons_succ]
  refine Held.take (v := .bool true) 27 (some 77) rfl rfl (by kernel_rfl) (by kernel_rfl) (by kernel_rfl) (fun _ _ _ h => h) rfl (Held.y_eql rfl rfl rfl (by kernel_rfl) Tryd.underlying25 Tryd.underlying5 (by kernel_rfl) HKL.out) c0_5 ?_
  simp only [Act.put, List.setIfInBounds_toArray, List.set_cons_zero, List.set_cons_succ]
  refine Held.take (v := .bool true) 28 (some 78) rfl rfl (by kernel_rfl) (by kernel_rfl) (by kernel_rfl) (fun _ _ _ h => h) rfl (Held.y_pick rfl rfl rfl) c0_5 ?_
  simp only [Act.put, List.setIfInBounds_toArray, List.set_cons_zero, List.set_cons_succ]
  refine Held.take (v := .bool true) 29 (some 79) rfl rfl (by kernel_rfl) (by kernel_rfl) (by kernel_rfl) (fun _ _ _ h => h) rfl (Held.y_move rfl rfl) c0_5 ?_
  simp only [Act.put, List.setIfInBounds_toArray, List.set_cons_zero, List.set_cons_succ]
  refine Held.take (v := .slice (some ⟨gi, 0, none⟩) m (m + 3)) 30 (some 80) rfl rfl (by kernel_rfl) (by kernel_rfl) (by kernel_rfl) (fun _ _ _ h => h) rfl (Held.y_move rfl rfl) c0_5 ?_
  simp only [Act.put, List.setIfInBounds_toArray, List.set_cons_zero, List.set_cons_succ]
  refine Held.take (v := .slice A2 m c2) 31 (some 81) rfl rfl (by kernel_rfl) (by kernel_rfl) (by kernel_rfl) (fun _ _ _ h => h) rfl (Held.y_move rfl rfl) c0_5 ?_
  simp only [Act.put, List.setIfInBounds_toArray, List.set_cons_zero, List.set_cons_succ]
  refine Held.one 32 (by kernel_rfl) ?_
  refine Held.op_call 32 (some 82) 16 #[.slice (some ⟨gi, 0, none⟩) m (m + 3), .slice A2 m c2, .int .u8 71] rfl rfl rfl rfl (enters_of Tryd.func16 (by kernel_rfl) rfl) (by simp [Act.eval])
    (kept_b _ A2 m c2 gi info 71 _ (h2.below (b.trans (c0_5.mono b.size))) (by omega) (rowi.below c0_5 rowi.lt)) ?_
  rintro e w6 ⟨rfl, b6⟩
  have c0_6 := c0_5.trans (b6.mono c0_5.size)
  refine ⟨_, rfl, c0_6, ?_⟩
  simp only [Act.put, List.setIfInBounds_toArray, List.set_cons_zero, List.set_cons_succ]
  refine Held.take (v := .bool true) 33 (some 83) rfl rfl (by kernel_rfl) (by kernel_rfl) (by kernel_rfl) (fun _ _ _ h => h) rfl (Held.y_pick rfl rfl rfl) c0_6 ?_
  simp only [Act.put, List.setIfInBounds_toArray, List.set_cons_zero, List.set_cons_succ]
  refine Held.take (v := .bool true) 34 (some 8) rfl rfl (by kernel_rfl) (by kernel_rfl) (by kernel_rfl) (fun _ _ _ h => h) rfl (Held.y_assign rfl rfl) c0_6 ?_
  simp only [Act.put, List.setIfInBounds_toArray, List.set_cons_zero, List.set_cons_succ]
  refine wpAnyH_done (by kernel_rfl) ?_ _
  go_wp2_with fail
  go_ret
  exact ⟨rfl, b.trans (c0_6.mono b.size)⟩

set_option maxRecDepth 100000 in
set_option maxHeartbeats 8000000 in
theorem start_high (A A' A2 : Option Addr) (n c n' c' m c2 : Nat) (salt key info : List Int) (x : Int) (w : World) (h : Ints w .u8 w.heap.size A n salt) (hc : n ≤ c) (hc' : c ≤ maxLen) (h' : Ints w .u8 w.heap.size A' n' key) (hd : n' ≤ c') (hd' : c' ≤ maxLen)
    (h2 : Ints w .u8 w.heap.size A2 m info) (hmc : m ≤ c2) (hcm : c2 ≤ maxLen) (hT : Tab w 0 Sum.H0 ∧ Tab w 1 Sum.K) (hbn : n ≤ 300) (hbn' : n' ≤ 300) (hbm : m ≤ 300) (hx : 8161 < x) :
    Calls Tryd.prog 3 #[.slice A n c, .slice A' n' c', .slice A2 m c2, .int .i64 x] w fun e w' => e = .returned (.bool true) ∧ Below w.heap.size w w' := by
  have q1 : ¬ (300 : Int) < (n : Int) := by omega
  have q2 : ¬ (300 : Int) < (n' : Int) := by omega
  have q3 : ¬ (300 : Int) < (m : Int) := by omega
  go_enter Tryd.func3, Tryd.ntmps3
  go_wp2_with fail
  refine (own_any _ A2 m c2 info 71 w h2 (Nat.le_refl _) (by omega) rfl).mono ?_
  rintro e w1 ⟨gi, rfl, hgi, ri, b1⟩
  go_wp2_with fail
  refine (extract_any _ _ A A' n c n' c' salt key w1 (h.below b1) b1.size hc hc' (by omega) (h'.below b1) b1.size hd hd' (by omega) (hT.1.below b1 hT.1.lt) (hT.2.below b1 hT.2.lt)).mono ?_
  rintro e w2 ⟨rfl, hb⟩
  have b2 := b1.trans (hb.mono b1.size)
  have ri2 := ri.below hb ri.lt
  obtain ⟨X, hX⟩ : ∃ X, tag salt key = X := ⟨_, rfl⟩
  have hXl : X.length = 32 := by rw [← hX]; exact tag_length _ _
  have hXw : ∀ z ∈ X, (Lit.int .u8 z).wf = true := by rw [← hX]; exact tag_wf _ _
  rw [hX]
  have HX := Lib.hid hX
  have HXL := Lib.hid hXl
  have HXW := Lib.hid hXw
  have l2 := ri2.lt
  have s2 := b2.size
  clear hX hXl hXw hb b1 ri
  go_wp2_with (first
    | (refine wpList_alloc_Row (w := w2) rfl 25 rfl .u8 32 zero_32 ?_; intro w3 r3 g3 z3)
    | (refine wpList_store_RowTo (w := w3) rfl 25 _ _ rfl w2.heap.size rfl 25 .u8 _ X rfl r3 32 info_32 HXL.out (by simp) HXW.out ?_; intro w4 r4 g4 z4)
    | (refine wpList_load_Row (w := w4) rfl 25 _ rfl w2.heap.size rfl 25 .u8 _ r4 32 5 Tryd.underlying25 info_32 HXL.out ?_))
  obtain ⟨gx, hgx⟩ : ∃ gx, w2.heap.size = gx := ⟨_, rfl⟩
  rw [hgx] at r3 r4 g4 l2 s2 ⊢
  have b4 : Below w.heap.size w w4 := (b2.grown g3 (by omega) (by simp)).grown g4 (by have := g3.size; omega) (fun r e => by cases e; omega)
  have ri4 := (ri2.grown g3 (by simp)).grown g4 (by intro e; injection e with e; omega)
  have ii4 := ri4.ints (n := m) (by simp; have := h2.1; omega)
  rw [List.take_left' h2.1] at ii4
  clear r3 g3 g4 z3 z4 b2 ri2 hgx l2 s2
  refine (expand_bad X HXW.out _ m (m + 3) 8161 w4 (by omega)).mono ?_
  rintro e w5 ⟨rfl, hb⟩
  have b5 := b4.trans (hb.mono b4.size)
  have r5 := r4.below hb r4.lt
  have ri5 := ri4.below hb ri4.lt
  clear hb b4 r4 ri4 ii4
  go_wp2_with (refine wpList_load_Row (w := w5) rfl 25 _ rfl gx rfl 25 .u8 _ r5 32 5 Tryd.underlying25 info_32 HXL.out ?_)
  refine (rexpand_bad X HXW.out A2 m c2 8161 w5 (by omega)).mono ?_
  rintro e wz ⟨rfl, hb⟩
  have b := b5.trans (hb.mono b5.size)
  have rx := r5.below hb r5.lt
  have rowi := ri5.below hb ri5.lt
  clear hb b5 r5 ri5
  go_wp2_with fail
  have HKL := Lib.hid (hkey_length salt key info)
  refine wp_region_held (S := fun W => Below wz.heap.size wz W) (by kernel_rfl) ?_
  change wpAnyH _ _ _ _ _ _ _ _ wz.drew
  have c0_0 := (Below.refl wz.heap.size wz).drew
  refine Held.one 0 (by kernel_rfl) ?_
  refine Held.op_call 0 (some 50) 7 #[] rfl rfl rfl rfl (enters_of Tryd.func7 (by kernel_rfl) rfl) (by simp [Act.eval])
    (awake4_any _ (hT.1.below (b.trans (c0_0.mono b.size)) hT.1.lt) (hT.2.below (b.trans (c0_0.mono b.size)) hT.2.lt)) ?_
  rintro e w1 ⟨rfl, b1⟩
  have c0_1 := c0_0.trans (b1.mono c0_0.size)
  refine ⟨_, rfl, c0_1, ?_⟩
  simp only [Act.put, List.setIfInBounds_toArray, List.set_cons_zero, List.set_cons_succ]
  refine Held.take (v := .bool true) 1 (some 51) rfl rfl (by kernel_rfl) (by kernel_rfl) (by kernel_rfl) (fun _ _ _ h => h) rfl (Held.y_move rfl rfl) c0_1 ?_
  simp only [Act.put, List.setIfInBounds_toArray, List.set_cons_zero, List.set_cons_succ]
  refine Held.take (v := .agg (arr .u8 X)) 2 (some 52) rfl rfl (by kernel_rfl) (by kernel_rfl) (by kernel_rfl) (fun _ _ _ h => h) rfl (Held.y_load_Row rfl rfl Tryd.underlying25 info_32 HXL.out (fun W h => rx.below h rx.lt)) c0_1 ?_
  simp only [Act.put, List.setIfInBounds_toArray, List.set_cons_zero, List.set_cons_succ]
  refine Held.take (v := .slice A n c) 3 (some 53) rfl rfl (by kernel_rfl) (by kernel_rfl) (by kernel_rfl) (fun _ _ _ h => h) rfl (Held.y_move rfl rfl) c0_1 ?_
  simp only [Act.put, List.setIfInBounds_toArray, List.set_cons_zero, List.set_cons_succ]
  refine Held.take (v := (.slice A' n' c')) 4 (some 54) rfl rfl (by kernel_rfl) (by kernel_rfl) (by kernel_rfl) (fun _ _ _ h => h) rfl (Held.y_move rfl rfl) c0_1 ?_
  simp only [Act.put, List.setIfInBounds_toArray, List.set_cons_zero, List.set_cons_succ]
  refine Held.one 5 (by kernel_rfl) ?_
  refine Held.op_call 5 (some 55) 12 #[.slice A n c, (.slice A' n' c')] rfl rfl rfl rfl (enters_of Tryd.func12 (by kernel_rfl) rfl) (by simp [Act.eval])
    (rextract_any w.heap.size w.heap.size A A' n c n' c' salt key _ (h.below (b.trans (c0_1.mono b.size))) (b.trans (c0_1.mono b.size)).size (by omega) (h'.below (b.trans (c0_1.mono b.size))) (b.trans (c0_1.mono b.size)).size (by omega)) ?_
  rw [HX.out]
  rintro e w2 ⟨rfl, b2⟩
  have c0_2 := c0_1.trans (b2.mono c0_1.size)
  refine ⟨_, rfl, c0_2, ?_⟩
  simp only [Act.put, List.setIfInBounds_toArray, List.set_cons_zero, List.set_cons_succ]
  refine Held.take (v := .bool true) 6 (some 56) rfl rfl (by kernel_rfl) (by kernel_rfl) (by kernel_rfl) (fun _ _ _ h => h) rfl (Held.y_eql rfl rfl rfl (by kernel_rfl) Tryd.underlying25 Tryd.underlying5 (by kernel_rfl) HXL.out) c0_2 ?_
  simp only [Act.put, List.setIfInBounds_toArray, List.set_cons_zero, List.set_cons_succ]
  refine Held.take (v := .bool true) 7 (some 57) rfl rfl (by kernel_rfl) (by kernel_rfl) (by kernel_rfl) (fun _ _ _ h => h) rfl (Held.y_pick rfl rfl rfl) c0_2 ?_
  simp only [Act.put, List.setIfInBounds_toArray, List.set_cons_zero, List.set_cons_succ]
  refine Held.take (v := .bool true) 8 (some 58) rfl rfl (by kernel_rfl) (by kernel_rfl) (by kernel_rfl) (fun _ _ _ h => h) rfl (Held.y_move rfl rfl) c0_2 ?_
  simp only [Act.put, List.setIfInBounds_toArray, List.set_cons_zero, List.set_cons_succ]
  refine Held.take (v := .slice none 0 0) 9 (some 59) rfl rfl (by kernel_rfl) (by kernel_rfl) (by kernel_rfl) (fun _ _ _ h => h) rfl (Held.y_move rfl rfl) c0_2 ?_
  simp only [Act.put, List.setIfInBounds_toArray, List.set_cons_zero, List.set_cons_succ]
  refine Held.take (v := .slice none 0 0) 10 (some 60) rfl rfl (by kernel_rfl) (by kernel_rfl) (by kernel_rfl) (fun _ _ _ h => h) rfl (Held.y_move rfl rfl) c0_2 ?_
  simp only [Act.put, List.setIfInBounds_toArray, List.set_cons_zero, List.set_cons_succ]
  refine Held.one 11 (by kernel_rfl) ?_
  refine Held.op_call 11 (some 61) 13 #[.slice none 0 0, .slice none 0 0] rfl rfl rfl rfl (enters_of Tryd.func13 (by kernel_rfl) rfl) (by simp [Act.eval])
    (Held.bytes_same _ _ _ _ _ _ _ _ [] [] _ (Ints.nil _ _ 0 _) (Ints.nil _ _ 0 _) rfl) ?_
  rintro e w3 ⟨rfl, b3⟩
  have c0_3 := c0_2.trans (b3.mono c0_2.size)
  refine ⟨_, rfl, c0_3, ?_⟩
  simp only [Act.put, List.setIfInBounds_toArray, List.set_cons_zero, List.set_cons_succ]
  refine Held.take (v := .bool true) 12 (some 62) rfl rfl (by kernel_rfl) (by kernel_rfl) (by kernel_rfl) (fun _ _ _ h => h) rfl (Held.y_pick rfl rfl rfl) c0_3 ?_
  simp only [Act.put, List.setIfInBounds_toArray, List.set_cons_zero, List.set_cons_succ]
  refine Held.take (v := .bool true) 13 (some 63) rfl rfl (by kernel_rfl) (by kernel_rfl) (by kernel_rfl) (fun _ _ _ h => h) rfl (Held.y_move rfl rfl) c0_3 ?_
  simp only [Act.put, List.setIfInBounds_toArray, List.set_cons_zero, List.set_cons_succ]
  refine Held.take (v := .int .i64 1) 14 (some 64) rfl rfl (by kernel_rfl) (by kernel_rfl) (by kernel_rfl) (fun _ _ _ h => h) rfl (Held.y_move rfl rfl) c0_3 ?_
  simp only [Act.put, List.setIfInBounds_toArray, List.set_cons_zero, List.set_cons_succ]
  refine Held.take (v := .int .i64 1) 15 (some 65) rfl rfl (by kernel_rfl) (by kernel_rfl) (by kernel_rfl) (fun _ _ _ h => h) rfl (Held.y_move rfl rfl) c0_3 ?_
  simp only [Act.put, List.setIfInBounds_toArray, List.set_cons_zero, List.set_cons_succ]
  refine Held.take (v := .bool true) 16 (some 66) rfl rfl (by kernel_rfl) (by kernel_rfl) (by kernel_rfl) (fun _ _ _ h => h) rfl (Held.y_eqi rfl rfl rfl) c0_3 ?_
  simp only [Act.put, List.setIfInBounds_toArray, List.set_cons_zero, List.set_cons_succ]
  refine Held.take (v := .bool true) 17 (some 67) rfl rfl (by kernel_rfl) (by kernel_rfl) (by kernel_rfl) (fun _ _ _ h => h) rfl (Held.y_pick rfl rfl rfl) c0_3 ?_
  simp only [Act.put, List.setIfInBounds_toArray, List.set_cons_zero, List.set_cons_succ]
  refine Held.take (v := .bool true) 18 (some 68) rfl rfl (by kernel_rfl) (by kernel_rfl) (by kernel_rfl) (fun _ _ _ h => h) rfl (Held.y_move rfl rfl) c0_3 ?_
  simp only [Act.put, List.setIfInBounds_toArray, List.set_cons_zero, List.set_cons_succ]
  refine Held.take (v := .slice A n c) 19 (some 69) rfl rfl (by kernel_rfl) (by kernel_rfl) (by kernel_rfl) (fun _ _ _ h => h) rfl (Held.y_move rfl rfl) c0_3 ?_
  simp only [Act.put, List.setIfInBounds_toArray, List.set_cons_zero, List.set_cons_succ]
  refine Held.take (v := (.slice A' n' c')) 20 (some 70) rfl rfl (by kernel_rfl) (by kernel_rfl) (by kernel_rfl) (fun _ _ _ h => h) rfl (Held.y_move rfl rfl) c0_3 ?_
  simp only [Act.put, List.setIfInBounds_toArray, List.set_cons_zero, List.set_cons_succ]
  refine Held.take (v := .slice A2 m c2) 21 (some 71) rfl rfl (by kernel_rfl) (by kernel_rfl) (by kernel_rfl) (fun _ _ _ h => h) rfl (Held.y_move rfl rfl) c0_3 ?_
  simp only [Act.put, List.setIfInBounds_toArray, List.set_cons_zero, List.set_cons_succ]
  refine Held.take (v := .slice A n c) 23 (some 73) rfl rfl (by kernel_rfl) (by kernel_rfl) (by kernel_rfl) (fun _ _ _ h => h) rfl (Held.y_move rfl rfl) c0_3 ?_
  simp only [Act.put, List.setIfInBounds_toArray, List.set_cons_zero, List.set_cons_succ]
  refine Held.take (v := (.slice A' n' c')) 24 (some 74) rfl rfl (by kernel_rfl) (by kernel_rfl) (by kernel_rfl) (fun _ _ _ h => h) rfl (Held.y_move rfl rfl) c0_3 ?_
  simp only [Act.put, List.setIfInBounds_toArray, List.set_cons_zero, List.set_cons_succ]
  refine Held.take (v := .slice A2 m c2) 25 (some 75) rfl rfl (by kernel_rfl) (by kernel_rfl) (by kernel_rfl) (fun _ _ _ h => h) rfl (Held.y_move rfl rfl) c0_3 ?_
  simp only [Act.put, List.setIfInBounds_toArray, List.set_cons_zero, List.set_cons_succ]
  refine Held.one 22 (by kernel_rfl) ?_
  refine Held.op_call 22 (some 72) 14 #[.slice A n c, (.slice A' n' c'), .slice A2 m c2] rfl rfl rfl rfl (enters_of Tryd.func14 (by kernel_rfl) rfl) (by simp [Act.eval])
    (key_any w.heap.size w.heap.size w.heap.size A A' A2 n c n' c' m c2 salt key info _ (h.below (b.trans (c0_3.mono b.size))) (b.trans (c0_3.mono b.size)).size hc hc' (by omega) (h'.below (b.trans (c0_3.mono b.size))) (b.trans (c0_3.mono b.size)).size hd hd' (by omega) (h2.below (b.trans (c0_3.mono b.size))) (b.trans (c0_3.mono b.size)).size hmc hcm (by omega) (hT.1.below (b.trans (c0_3.mono b.size)) hT.1.lt) (hT.2.below (b.trans (c0_3.mono b.size)) hT.2.lt)) ?_
  rintro e w4 ⟨rfl, b4⟩
  have c0_4 := c0_3.trans (b4.mono c0_3.size)
  refine ⟨_, rfl, c0_4, ?_⟩
  simp only [Act.put, List.setIfInBounds_toArray, List.set_cons_zero, List.set_cons_succ]
  refine Held.one 26 (by kernel_rfl) ?_
  refine Held.op_call 26 (some 76) 15 #[.slice A n c, (.slice A' n' c'), .slice A2 m c2] rfl rfl rfl rfl (enters_of Tryd.func15 (by kernel_rfl) rfl) (by simp [Act.eval])
    (rkey_any w.heap.size w.heap.size w.heap.size A A' A2 n c n' c' m c2 salt key info _ (h.below (b.trans (c0_4.mono b.size))) (b.trans (c0_4.mono b.size)).size (by omega) (h'.below (b.trans (c0_4.mono b.size))) (b.trans (c0_4.mono b.size)).size (by omega) (h2.below (b.trans (c0_4.mono b.size))) (b.trans (c0_4.mono b.size)).size (by omega)) ?_
  rintro e w5 ⟨rfl, b5⟩
  have c0_5 := c0_4.trans (b5.mono c0_4.size)
  refine ⟨_, rfl, c0_5, ?_⟩
  simp only [Act.put, List.setIfInBounds_toArray, List.set_cons_zero, List.set_cons_succ]
  refine Held.take (v := .bool true) 27 (some 77) rfl rfl (by kernel_rfl) (by kernel_rfl) (by kernel_rfl) (fun _ _ _ h => h) rfl (Held.y_eql rfl rfl rfl (by kernel_rfl) Tryd.underlying25 Tryd.underlying5 (by kernel_rfl) HKL.out) c0_5 ?_
  simp only [Act.put, List.setIfInBounds_toArray, List.set_cons_zero, List.set_cons_succ]
  refine Held.take (v := .bool true) 28 (some 78) rfl rfl (by kernel_rfl) (by kernel_rfl) (by kernel_rfl) (fun _ _ _ h => h) rfl (Held.y_pick rfl rfl rfl) c0_5 ?_
  simp only [Act.put, List.setIfInBounds_toArray, List.set_cons_zero, List.set_cons_succ]
  refine Held.take (v := .bool true) 29 (some 79) rfl rfl (by kernel_rfl) (by kernel_rfl) (by kernel_rfl) (fun _ _ _ h => h) rfl (Held.y_move rfl rfl) c0_5 ?_
  simp only [Act.put, List.setIfInBounds_toArray, List.set_cons_zero, List.set_cons_succ]
  refine Held.take (v := .slice (some ⟨gi, 0, none⟩) m (m + 3)) 30 (some 80) rfl rfl (by kernel_rfl) (by kernel_rfl) (by kernel_rfl) (fun _ _ _ h => h) rfl (Held.y_move rfl rfl) c0_5 ?_
  simp only [Act.put, List.setIfInBounds_toArray, List.set_cons_zero, List.set_cons_succ]
  refine Held.take (v := .slice A2 m c2) 31 (some 81) rfl rfl (by kernel_rfl) (by kernel_rfl) (by kernel_rfl) (fun _ _ _ h => h) rfl (Held.y_move rfl rfl) c0_5 ?_
  simp only [Act.put, List.setIfInBounds_toArray, List.set_cons_zero, List.set_cons_succ]
  refine Held.one 32 (by kernel_rfl) ?_
  refine Held.op_call 32 (some 82) 16 #[.slice (some ⟨gi, 0, none⟩) m (m + 3), .slice A2 m c2, .int .u8 71] rfl rfl rfl rfl (enters_of Tryd.func16 (by kernel_rfl) rfl) (by simp [Act.eval])
    (kept_b _ A2 m c2 gi info 71 _ (h2.below (b.trans (c0_5.mono b.size))) (by omega) (rowi.below c0_5 rowi.lt)) ?_
  rintro e w6 ⟨rfl, b6⟩
  have c0_6 := c0_5.trans (b6.mono c0_5.size)
  refine ⟨_, rfl, c0_6, ?_⟩
  simp only [Act.put, List.setIfInBounds_toArray, List.set_cons_zero, List.set_cons_succ]
  refine Held.take (v := .bool true) 33 (some 83) rfl rfl (by kernel_rfl) (by kernel_rfl) (by kernel_rfl) (fun _ _ _ h => h) rfl (Held.y_pick rfl rfl rfl) c0_6 ?_
  simp only [Act.put, List.setIfInBounds_toArray, List.set_cons_zero, List.set_cons_succ]
  refine Held.take (v := .bool true) 34 (some 8) rfl rfl (by kernel_rfl) (by kernel_rfl) (by kernel_rfl) (fun _ _ _ h => h) rfl (Held.y_assign rfl rfl) c0_6 ?_
  simp only [Act.put, List.setIfInBounds_toArray, List.set_cons_zero, List.set_cons_succ]
  refine wpAnyH_done (by kernel_rfl) ?_ _
  go_wp2_with fail
  go_ret
  exact ⟨rfl, b.trans (c0_6.mono b.size)⟩

set_option maxRecDepth 100000 in
set_option maxHeartbeats 4000000 in
theorem start (A A' A2 : Option Addr) (n c n' c' m c2 : Nat) (salt key info : List Int) (x : Int) (w : World) (h : Ints w .u8 w.heap.size A n salt) (hc : n ≤ c) (hc' : c ≤ maxLen) (h' : Ints w .u8 w.heap.size A' n' key) (hd : n' ≤ c') (hd' : c' ≤ maxLen)
    (h2 : Ints w .u8 w.heap.size A2 m info) (hmc : m ≤ c2) (hcm : c2 ≤ maxLen) (hT : Tab w 0 Sum.H0 ∧ Tab w 1 Sum.K) :
    Calls Tryd.prog 3 #[.slice A n c, .slice A' n' c', .slice A2 m c2, .int .i64 x] w fun e w' => e = .returned (.bool true) ∧ Below w.heap.size w w' := by
  by_cases hbig : 300 < n ∨ 300 < n' ∨ 300 < m
  · rcases (by omega : 300 < n ∨ (¬ 300 < n ∧ 300 < n') ∨ (¬ 300 < n ∧ ¬ 300 < n' ∧ 300 < m)) with hb | ⟨hb, hb'⟩ | ⟨hb, hb', hb2⟩
    · have q0 : (300 : Int) < (n : Int) := by omega
      go_enter Tryd.func3, Tryd.ntmps3
      go_wp2_with (go_at_call 7; refine (awake4_any _ hT.1 hT.2).mono ?_; rintro e w' ⟨rfl, hb⟩)
      go_ret
      exact ⟨rfl, hb⟩
    · have q0 : ¬ (300 : Int) < (n : Int) := by omega
      have q1 : (300 : Int) < (n' : Int) := by omega
      go_enter Tryd.func3, Tryd.ntmps3
      go_wp2_with (go_at_call 7; refine (awake4_any _ hT.1 hT.2).mono ?_; rintro e w' ⟨rfl, hb⟩)
      go_ret
      exact ⟨rfl, hb⟩
    · have q0 : ¬ (300 : Int) < (n : Int) := by omega
      have q1 : ¬ (300 : Int) < (n' : Int) := by omega
      have q2 : (300 : Int) < (m : Int) := by omega
      go_enter Tryd.func3, Tryd.ntmps3
      go_wp2_with (go_at_call 7; refine (awake4_any _ hT.1 hT.2).mono ?_; rintro e w' ⟨rfl, hb⟩)
      go_ret
      exact ⟨rfl, hb⟩
  · by_cases hx : 8161 < x
    · exact start_high A A' A2 n c n' c' m c2 salt key info x w h hc hc' h' hd hd' h2 hmc hcm hT (by omega) (by omega) (by omega) hx
    · by_cases hy : x < 1 ∨ x = 8161
      · exact start_low A A' A2 n c n' c' m c2 salt key info x w h hc hc' h' hd hd' h2 hmc hcm hT (by omega) (by omega) (by omega) hy
      · obtain ⟨N, rfl⟩ : ∃ N : Nat, x = (N : Int) := ⟨x.toNat, by omega⟩
        exact start_good A A' A2 n c n' c' m c2 salt key info N w h hc hc' h' hd hd' h2 hmc hcm hT (by omega) (by omega) (by omega) (by omega) (by omega)

theorem walk (a0 : Option Addr) (len0 cap0 : Nat) (z0 : List Int) (a1 : Option Addr) (len1 cap1 : Nat) (z1 : List Int) (a2 : Option Addr) (len2 cap2 : Nat) (z2 : List Int) (a3 : Int) (w : World) (w0 : IsRow .u8 w a0 len0 cap0 z0) (w1 : IsRow .u8 w a1 len1 cap1 z1) (w2 : IsRow .u8 w a2 len2 cap2 z2) (w3 : (Lit.int .i64 a3).wf = true) (hL : laidMetH Tryd.prog laidList w) :
    Calls Tryd.prog 3 #[.slice a0 len0 cap0, .slice a1 len1 cap1, .slice a2 len2 cap2, .int .i64 a3] w fun e w' => e = .returned (.bool true) ∧ Below w.heap.size w w' := by
  obtain ⟨h, hl, hm⟩ := ints_of_row w0
  obtain ⟨h', hl', hm'⟩ := ints_of_row w1
  obtain ⟨h2, hl2, hm2⟩ := ints_of_row w2
  exact start a0 a1 a2 len0 cap0 len1 cap1 len2 cap2 _ _ _ a3 w h hl hm h' hl' hm' h2 hl2 hm2 (sha_of_laid hL)

set_option maxRecDepth 100000 in
theorem door_met (os : Os) (args : Array Value) : laidMetH Tryd.prog laidList ((World.doorLaid Tryd.prog 400 os).forCall (fun _ _ => 0) ⟨#[], args, []⟩).memory :=
  laidMetH_of_parts3 (fuel := 8) (laidMet_of_run' 8 (by kernel_rfl) (by kernel_rfl)) (by kernel_rfl) (by kernel_rfl)

set_option maxRecDepth 100000 in
theorem lifted (os : Os) (started : os.Started) (H : Type) (enc : TypeId × Value → H) :
    ReturnsInHanded {} Tryd.checked os 3 .any (fun w args => (Rows.hkdfKeysSpec.pre enc Tryd.prog Tryd.f3 [] false w args ∧ laidMetH Tryd.prog laidList w) ∧ sizedMet enc Tryd.prog Tryd.f3 (OpenSpec.ofChange Rows.hkdfKeysSpec) false w args)
      (Rows.hkdfKeysSpec.post enc Tryd.prog Tryd.f3 false true false false) := by
  refine returnsInHanded_of_change_and (C := Tryd.checked) (X := fun w _ => laidMetH Tryd.prog laidList w) (fun _ _ _ hh h => h.of_heap hh) own started (by kernel_rfl) Tryd.func3
    (ChangeSpec.witness_shaped (enc := enc) (C := Tryd.checked) (os := os) (X := fun w _ => laidMetH Tryd.prog laidList w) false (World.doorLaid Tryd.prog 400 os) #[.slice none 0 0, .slice none 0 0, .slice none 0 0, .int .i64 0] 8 rfl (World.shaped_of_RefB (by kernel_rfl) (by kernel_rfl)) (by kernel_rfl) (by kernel_rfl) (by kernel_rfl) (door_met os _)) ?_
  intro W base args ds gs before hval0 hW _ _ hL _
  have hval : ∀ (j : Nat) t v, Tryd.f3.params[j]? = some t → args[j]? = some v → Value.okWide Tryd.prog W .any base t v := hval0
  have hW' := hW
  obtain ⟨p, q, hA0, hV, rfl, hfz, hnd⟩ := hW
  have hA : DataW.TrodAll enc Tryd.prog W 0 (fun _ => true) true Tryd.f3.params.toList args.toList ds p := hA0
  rw [Tryd.params3] at hA hval
  obtain ⟨v0, vs0, d0, ds0, p0, q0, hargs, rfl, rfl, h0, r0⟩ := trodAll_cons hA
  obtain ⟨v1, vs1, d1, ds1, p1, q1, rfl, rfl, rfl, h1, r1⟩ := trodAll_cons r0
  obtain ⟨v2, vs2, d2, ds2, p2, q2, rfl, rfl, rfl, h2, r2⟩ := trodAll_cons r1
  obtain ⟨v3, vs3, d3, ds3, p3, q3, rfl, rfl, rfl, h3, r3⟩ := trodAll_cons r2
  obtain ⟨rfl, rfl, rfl⟩ := trodAll_nil r3
  obtain rfl : args = #[v0, v1, v2, v3] := by cases args; simp_all
  obtain ⟨rfl, rfl⟩ := trodVars_none hV
  obtain ⟨a0, len0, cap0, rfl⟩ := okWide_slice Tryd.underlying22 (hval 0 22 v0 rfl rfl)
  have k0 := h0
  have lt0 : ∀ x ∈ p0, x.block < W.heap.size := by obtain ⟨m, hm⟩ := k0; exact DataW.trod_lt m _ _ _ hm
  obtain ⟨z0, w0⟩ : ∃ zs, IsRow .u8 W a0 len0 cap0 zs := by
    obtain ⟨fuel, hf⟩ := h0
    rcases open_ints Tryd.underlying22 Tryd.underlying5 (by kernel_rfl) hf with ⟨hcs, _⟩ | ⟨x, l, c, zs, hcs, _, hl, hm, hz, _, hcell, hwz⟩
    · simp [Value.cells] at hcs
      obtain ⟨rfl, rfl, rfl⟩ := hcs
      exact ⟨[], .inl ⟨rfl, rfl, rfl, rfl⟩⟩
    · simp [Value.cells] at hcs
      obtain ⟨rfl, rfl, rfl⟩ := hcs
      exact ⟨zs, .inr ⟨_, rfl, hl, hm, by simpa using hz, hcell, hwz⟩⟩
  obtain ⟨a1, len1, cap1, rfl⟩ := okWide_slice Tryd.underlying22 (hval 1 22 v1 rfl rfl)
  have k1 := h1
  have lt1 : ∀ x ∈ p1, x.block < W.heap.size := by obtain ⟨m, hm⟩ := k1; exact DataW.trod_lt m _ _ _ hm
  obtain ⟨z1, w1⟩ : ∃ zs, IsRow .u8 W a1 len1 cap1 zs := by
    obtain ⟨fuel, hf⟩ := h1
    rcases open_ints Tryd.underlying22 Tryd.underlying5 (by kernel_rfl) hf with ⟨hcs, _⟩ | ⟨x, l, c, zs, hcs, _, hl, hm, hz, _, hcell, hwz⟩
    · simp [Value.cells] at hcs
      obtain ⟨rfl, rfl, rfl⟩ := hcs
      exact ⟨[], .inl ⟨rfl, rfl, rfl, rfl⟩⟩
    · simp [Value.cells] at hcs
      obtain ⟨rfl, rfl, rfl⟩ := hcs
      exact ⟨zs, .inr ⟨_, rfl, hl, hm, by simpa using hz, hcell, hwz⟩⟩
  obtain ⟨a2, len2, cap2, rfl⟩ := okWide_slice Tryd.underlying22 (hval 2 22 v2 rfl rfl)
  have k2 := h2
  have lt2 : ∀ x ∈ p2, x.block < W.heap.size := by obtain ⟨m, hm⟩ := k2; exact DataW.trod_lt m _ _ _ hm
  obtain ⟨z2, w2⟩ : ∃ zs, IsRow .u8 W a2 len2 cap2 zs := by
    obtain ⟨fuel, hf⟩ := h2
    rcases open_ints Tryd.underlying22 Tryd.underlying5 (by kernel_rfl) hf with ⟨hcs, _⟩ | ⟨x, l, c, zs, hcs, _, hl, hm, hz, _, hcell, hwz⟩
    · simp [Value.cells] at hcs
      obtain ⟨rfl, rfl, rfl⟩ := hcs
      exact ⟨[], .inl ⟨rfl, rfl, rfl, rfl⟩⟩
    · simp [Value.cells] at hcs
      obtain ⟨rfl, rfl, rfl⟩ := hcs
      exact ⟨zs, .inr ⟨_, rfl, hl, hm, by simpa using hz, hcell, hwz⟩⟩
  obtain ⟨a3, rfl, rfl, rfl, w3⟩ := open_int Tryd.underlying3 (hval 3 3 v3 rfl rfl) h3
  clear hA0 hval0
  refine (walk a0 len0 cap0 z0 a1 len1 cap1 z1 a2 len2 cap2 z2 a3 W w0 w1 w2 w3 hL).mono fun e W' ⟨he, bel⟩ => ?_
  subst he
  exact ⟨_, rfl, _, _, _, [], _, [], hW', trodAll_mk1 (shut_bool Tryd.underlying4 _), (trodAll_cons_mk (Below.trod laidOut (by kernel_rfl) (of_decide_eq_true (by kernel_rfl)) k0 bel lt0) (trodAll_cons_mk (Below.trod laidOut (by kernel_rfl) (of_decide_eq_true (by kernel_rfl)) k1 bel lt1) (trodAll_cons_mk (Below.trod laidOut (by kernel_rfl) (of_decide_eq_true (by kernel_rfl)) k2 bel lt2) (trodAll_cons_mk (shut_int Tryd.underlying3 w3) trodAll_mk0)))), rfl, bel.frame _, fun h => by cases h⟩

theorem over : Rows.hkdfKeysRow.holds Tryd.pinned (OpenSpec.ofChange Rows.hkdfKeysSpec) :=
  OpenClaim.holds_of_wide 3 Tryd.f3 rfl rfl rfl rfl rfl rfl rfl ⟨rfl, rfl, rfl, rfl, rfl⟩ rfl rfl rfl rfl rfl (by kernel_rfl) Tryd.func3 (by kernel_rfl)
    (of_decide_eq_true (by kernel_rfl)) (by unfold Func.isWrapper; first | (rw [if_pos (by decide +kernel)]; kernel_rfl) | (rw [if_neg (by decide +kernel)]; exact ⟨rfl, rfl⟩))
    (fun os started H enc _ => lifted os started H enc)

/-- the statement -/
theorem proved : Rows.HkdfKeysCardSaid :=
  Claim7.holds_tied_plain_at .later [] [.data, .data] true (true, "32f6b24c69c7a4d5a74b7e76ad39c8f9140722c6a5250b182338480d9edaa433") false
    over (fun _ h => by cases h) (by kernel_rfl) (fun _ h => by cases h) hkdfKeys_row_tie rfl ⟨rfl, rfl⟩ (by kernel_rfl) rfl
    (fun f fn hf hfn => by
      obtain rfl : f = 3 := Option.some.inj ((show Tryd.prog.funcNamed "domino/dominolaw04.HkdfKeys" = some 3 by kernel_rfl).symm.trans hf) |>.symm
      obtain rfl : fn = Tryd.f3 := (Option.some.inj (Tryd.func3.symm.trans hfn)).symm
      exact ⟨by kernel_rfl, fun j t ht => by
        rw [Tryd.params3] at ht
        have hm : t ∈ [22, 22, 22, 3] := by simpa using Array.mem_of_getElem? ht
        have hall : ([22, 22, 22, 3].all fun u => !Tryd.prog.wantsStandIn u) = true := by kernel_rfl
        exact (show Tryd.prog.wantsStandIn t = false by simpa using List.all_eq_true.1 hall t hm)⟩)
    (by kernel_rfl)
#print axioms proved
end Go.Proofs.YtbfdhbobokfbhaaDoor.hkdfKeys
