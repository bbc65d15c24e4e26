/-
  The law ChachaBack of package dominolaw05 returns true for every key, nonce, counter, bytes and number: turned twice bytes are as they were; a part from a whole block on is turned alike with a counter so much greater. The table of package chacha holds what the program's text lays.
-/
import Derived.Test.YtejgnjnmlojdpaaDoorRows
import Derived.Test.YtejgnjnmlojdpaaDoorCards
import Derived.Test.YtejgnjnmlojdpaaDoorTie
import Derived.SevenTiedAt
import Derived.WalkKit
import Derived.ProofKit
import Derived.OpenShut
import Derived.ShutString
import Derived.ChangeOld
import Derived.Below
import Derived.LaidMore
import Derived.Stop.Joined
import Derived.Test.YtejgnjnmlojdpaaDoorCh9
import Derived.Test.YtejgnjnmlojdpaaDoorReg
import Derived.Test.YtejgnjnmlojdpaaDoorCut
import Derived.Test.YtejgnjnmlojdpaaDoorArrP
namespace Go.Proofs.YtejgnjnmlojdpaaDoor.chachaBack
open Go.ChangeShapes Go.WideShapes Go.ChangeAt Go.RowKit
open Go.ChangeMaps (open_string shut_string)
open Go.Shelf Go.Proofs.YtejgnjnmlojdpaaDoor.Mem Go.Proofs.YtejgnjnmlojdpaaDoor.Help Go.Proofs.YtejgnjnmlojdpaaDoor.Sum Go.Proofs.YtejgnjnmlojdpaaDoor.Cc Go.Proofs.YtejgnjnmlojdpaaDoor.Sha Go.Proofs.YtejgnjnmlojdpaaDoor.Cha Go.Proofs.YtejgnjnmlojdpaaDoor
set_option linter.unusedVariables false

theorem own : ownKnob Tryd.prog.godebug = none := by kernel_rfl
theorem laidOut : laidOutB Tryd.prog = true := by kernel_rfl

/-- what a slice that came in leads to -/
def IsRow (k : IntKind) (w : World) (a : Option Addr) (len cap : Nat) (zs : List Int) : Prop :=
  (a = none ∧ len = 0 ∧ cap = 0 ∧ zs = []) ∨
  ∃ x, a = some x ∧ len ≤ cap ∧ cap ≤ maxLen ∧ zs.length = cap ∧ (∀ i, i < zs.length → w.cell? (x.add i) = some (.int k (zs.getD i 0))) ∧ ∀ n ∈ zs, (Lit.int k n).wf = true

def laidList : List (String × DataW Unit) := [("domino/chacha.start", Rows.laid_domino_chacha_start)]

attribute [local irreducible] wpList Calls

set_option maxRecDepth 100000 in
set_option maxHeartbeats 8000000 in
theorem start (key nonce : List Int) (ctr : Int) (A : Option Addr) (m c : Nat) (bs : List Int) (x : Int) (w : World) (h : Ints w .u8 w.heap.size A m bs) (hmc : m ≤ c) (hfl : Flat A c)
    (hk : key.length = 32) (hkb : Bs key) (hn : nonce.length = 12) (hnb : Bs nonce) (hc : R32 ctr) (hT : Tab w 0 sigma) :
    Calls Tryd.prog 5 #[.agg (arr .u8 key), .agg (arr .u8 nonce), .int .u32 ctr, .slice A m c, .int .i64 x] w fun e w' => e = .returned (.bool true) ∧ Below w.heap.size w w' := by
  have info_k : (Tryd.prog.info? 22).map (·.size) = some 32 := by kernel_rfl
  have info_n : (Tryd.prog.info? 24).map (·.size) = some 12 := by kernel_rfl
  have HK := Lib.hid hk
  have HN := Lib.hid hn
  have HB := Lib.hid h.1
  have HXL := Lib.hid (show (xors key nonce ctr bs).length = m by rw [xors_length, h.1])
  have HBB := Lib.hid (xors_back key nonce ctr (bs_of_wf h.2.1))
  have HD := Lib.hid (fun t (ht : 64 * t ≤ m) => xors_drop key nonce ctr bs t (by rw [h.1]; exact ht))
  clear hk hn
  go_enter Tryd.func5, Tryd.ntmps5
  by_cases hbig : 2000 < m
  · have q : (2000 : Int) < (m : Int) := by omega
    go_wp2_with (first
      | (refine wpList_box_Row (w := w) rfl 22 _ rfl .u8 key rfl (bs_wf hkb) ?_; intro w1 r1 g1 z1)
      | (refine wpList_box_Row (w := w1) rfl 24 _ rfl .u8 nonce rfl (bs_wf hnb) ?_; intro w2 r2 g2 z2))
    refine (awake5_any _).mono ?_
    rintro e w' ⟨rfl, rfl⟩
    go_wp2_with fail
    go_ret
    exact ⟨rfl, ((Below.refl _ w).grown g1 (Nat.le_refl _) (by simp)).grown g2 g1.size (by simp)⟩
  · have q : ¬ (2000 : Int) < (m : Int) := by omega
    obtain ⟨L, hL⟩ : ∃ L : Nat, L = m / 64 + 1 := ⟨_, rfl⟩
    have hm0 : (0 : Int) ≤ (m : Int) := by omega
    have hu : IntKind.u64.wrap ((m : Int) / 64 + 1) = (L : Int) := by rw [IntKind.wrap_u64]; omega
    have hL0 : ¬ (L : Int) = 0 := by omega
    obtain ⟨t, ht, ht2⟩ : ∃ t : Nat, wrap64 ((IntKind.u64.wrap x).tmod (L : Int)) = (t : Int) ∧ t < L := by
      have hu0 : 0 ≤ IntKind.u64.wrap x := by rw [IntKind.wrap_u64]; omega
      have h1 : 0 ≤ IntKind.u64.wrap x % (L : Int) := Int.emod_nonneg _ (by omega)
      have h2 : IntKind.u64.wrap x % (L : Int) < L := Int.emod_lt_of_pos _ (by omega)
      rw [Int.tmod_eq_emod_of_nonneg hu0]
      exact ⟨(IntKind.u64.wrap x % (L : Int)).toNat, by unfold wrap64; omega, by omega⟩
    have HTM := Lib.hid (show 64 * t ≤ m by omega)
    have HL := Lib.hid hL
    clear hL
    go_wp2_with (first
      | (refine wpList_box_Row (w := w) rfl 22 _ rfl .u8 key rfl (bs_wf hkb) ?_; intro w1 r1 g1 z1)
      | (refine wpList_box_Row (w := w1) rfl 24 _ rfl .u8 nonce rfl (bs_wf hnb) ?_; intro w2 r2 g2 z2; have k2 := r1.grown g2 (by simp))
      | (refine wpList_load_RowG (w := w2) rfl 22 _ rfl w.heap.size rfl 22 .u8 _ k2 32 5 Tryd.underlying22 info_k HK.out ?_)
      | (refine wpList_load_RowG (w := w2) rfl 24 _ rfl w1.heap.size rfl 24 .u8 _ r2 12 5 Tryd.underlying24 info_n HN.out ?_))
    have b2 : Below w.heap.size w w2 := ((Below.refl _ w).grown g1 (Nat.le_refl _) (by simp)).grown g2 g1.size (by simp)
    obtain ⟨nn, hnn⟩ : ∃ x, w1.heap.size = x := ⟨_, rfl⟩
    rw [hnn] at r2 ⊢
    clear hnn r1 g1 g2 z1 z2
    refine (xor_any key nonce ctr _ A m c bs w2 (h.below b2) b2.size hmc (by omega) HK.out hkb HN.out hnb hc (hT.below b2 hT.lt)).mono ?_
    rintro e wz ⟨Ax, cx, rfl, hcx, hcx', ox, b3⟩
    have kz := k2.below b3 k2.lt
    have nz := r2.below b3 r2.lt
    have b := b2.trans (b3.mono b2.size)
    clear b3 k2 r2 b2
    go_wp2_with fail
    rw [ht]
    clear ht hu hL0
    have hz := (h.below b).more b.size
    have ix := ox.ints HXL.out
    have HXX := Lib.hid (show (xors key nonce ctr (xors key nonce ctr bs)).length = m by rw [xors_length, HXL.out])
    have HXY := Lib.hid (show (xors key nonce (addI ctr (t : Int)) (bs.drop (64 * t))).length = m - 64 * t by rw [xors_length, List.length_drop, HB.out])
    have HDt := Lib.hid (HD.out t HTM.out)
    have hmul : IntKind.i64.wrap (64 * (t : Int)) = ((64 * t : Nat) : Int) := by have := HTM.out; rw [IntKind.wrap_i64]; omega
    have hcv : IntKind.u32.wrap (t : Int) = (t : Int) := by have := HTM.out; rw [IntKind.wrap_u32]; omega
    obtain ⟨Ab, hsb, _, ib⟩ := run_back (P := Tryd.prog) (t := 38) (e := 5) Tryd.underlying38 (by kernel_rfl) hfl hmc HTM.out hz
    obtain ⟨Ac, hsc, _, ic⟩ := run_back (P := Tryd.prog) (t := 38) (e := 5) Tryd.underlying38 (by kernel_rfl) ox.flat hcx HTM.out ix
    have hsz := b.size
    refine wp_region_held (S := fun W => Below wz.heap.size wz W) (by kernel_rfl) ?_
    change wpAnyH _ _ _ _ _ _ _ _ wz.drew
    have c0_0 := (Below.refl wz.heap.size wz).drew
    refine Held.one 0 (by kernel_rfl) ?_
    refine Held.op_call 0 (some 31) 9 #[] rfl rfl rfl rfl (enters_of Tryd.func9 (by kernel_rfl) rfl) (by simp)
      (awake5_b _) ?_
    rintro e w1 ⟨rfl, b1⟩
    have c0_1 := c0_0.trans (b1.mono c0_0.size)
    refine ⟨_, rfl, c0_1, ?_⟩
    simp only [Act.put, List.setIfInBounds_toArray, List.set_cons_zero, List.set_cons_succ]
    refine Held.take (v := .bool true) 1 (some 32) rfl rfl (by kernel_rfl) (by kernel_rfl) (by kernel_rfl) (fun _ _ _ h => h) rfl (Held.y_move rfl rfl) c0_1 ?_
    simp only [Act.put, List.setIfInBounds_toArray, List.set_cons_zero, List.set_cons_succ]
    refine Held.take (v := .agg (arr .u8 key)) 2 (some 33) rfl rfl (by kernel_rfl) (by kernel_rfl) (by kernel_rfl) (fun _ _ _ h => h) rfl (Held.y_load_Row (zs := key) rfl rfl Tryd.underlying22 info_k HK.out (fun W hW => Row.below kz hW kz.lt)) c0_1 ?_
    simp only [Act.put, List.setIfInBounds_toArray, List.set_cons_zero, List.set_cons_succ]
    refine Held.take (v := .agg (arr .u8 nonce)) 3 (some 34) rfl rfl (by kernel_rfl) (by kernel_rfl) (by kernel_rfl) (fun _ _ _ h => h) rfl (Held.y_load_Row (zs := nonce) rfl rfl Tryd.underlying24 info_n HN.out (fun W hW => Row.below nz hW nz.lt)) c0_1 ?_
    simp only [Act.put, List.setIfInBounds_toArray, List.set_cons_zero, List.set_cons_succ]
    refine Held.take (v := .int .u32 ctr) 4 (some 35) rfl rfl (by kernel_rfl) (by kernel_rfl) (by kernel_rfl) (fun _ _ _ h => h) rfl (Held.y_move rfl rfl) c0_1 ?_
    simp only [Act.put, List.setIfInBounds_toArray, List.set_cons_zero, List.set_cons_succ]
    refine Held.take (v := .slice Ax m cx) 5 (some 36) rfl rfl (by kernel_rfl) (by kernel_rfl) (by kernel_rfl) (fun _ _ _ h => h) rfl (Held.y_move rfl rfl) c0_1 ?_
    simp only [Act.put, List.setIfInBounds_toArray, List.set_cons_zero, List.set_cons_succ]
    refine Held.take (v := .slice A m c) 7 (some 38) rfl rfl (by kernel_rfl) (by kernel_rfl) (by kernel_rfl) (fun _ _ _ h => h) rfl (Held.y_move rfl rfl) c0_1 ?_
    simp only [Act.put, List.setIfInBounds_toArray, List.set_cons_zero, List.set_cons_succ]
    refine Held.one 6 (by kernel_rfl) ?_
    refine Held.op_call 6 (some 37) 15 #[.agg (arr .u8 key), .agg (arr .u8 nonce), .int .u32 ctr, .slice Ax m cx] rfl rfl rfl rfl (enters_of Tryd.func15 (by kernel_rfl) rfl) (by simp [Act.eval])
      (xor_any key nonce ctr _ Ax m cx _ _ (ix.below c0_1) c0_1.size hcx (by omega) HK.out hkb HN.out hnb hc (hT.below (b.trans (c0_1.mono b.size)) hT.lt)) ?_
    rintro e w2 ⟨A6, c6, rfl, h61, h62, o6, b2⟩
    have c0_2 := c0_1.trans (b2.mono c0_1.size)
    have i6 := o6.ints HXX.out
    rw [HBB.out] at i6
    clear o6
    refine ⟨_, rfl, c0_2, ?_⟩
    simp only [Act.put, List.setIfInBounds_toArray, List.set_cons_zero, List.set_cons_succ]
    refine Held.one 8 (by kernel_rfl) ?_
    refine Held.op_call 8 (some 39) 16 #[.slice A6 m c6, .slice A m c] rfl rfl rfl rfl (enters_of Tryd.func16 (by kernel_rfl) rfl) (by simp [Act.eval])
      (Held.bytes_same _ _ _ _ _ _ _ _ _ _ _ i6 (hz.below c0_2) rfl) ?_
    rintro e w3 ⟨rfl, b3⟩
    have c0_3 := c0_2.trans (b3.mono c0_2.size)
    refine ⟨_, rfl, c0_3, ?_⟩
    simp only [Act.put, List.setIfInBounds_toArray, List.set_cons_zero, List.set_cons_succ]
    refine Held.take (v := .bool true) 9 (some 40) rfl rfl (by kernel_rfl) (by kernel_rfl) (by kernel_rfl) (fun _ _ _ h => h) rfl (Held.y_pick rfl rfl rfl) c0_3 ?_
    simp only [Act.put, List.setIfInBounds_toArray, List.set_cons_zero, List.set_cons_succ]
    refine Held.take (v := .bool true) 10 (some 41) rfl rfl (by kernel_rfl) (by kernel_rfl) (by kernel_rfl) (fun _ _ _ h => h) rfl (Held.y_move rfl rfl) c0_3 ?_
    simp only [Act.put, List.setIfInBounds_toArray, List.set_cons_zero, List.set_cons_succ]
    refine Held.take (v := .slice Ax m cx) 11 (some 42) rfl rfl (by kernel_rfl) (by kernel_rfl) (by kernel_rfl) (fun _ _ _ h => h) rfl (Held.y_move rfl rfl) c0_3 ?_
    simp only [Act.put, List.setIfInBounds_toArray, List.set_cons_zero, List.set_cons_succ]
    refine Held.take (v := .int .i64 (m : Int)) 12 (some 43) rfl rfl (by kernel_rfl) (by kernel_rfl) (by kernel_rfl) (fun _ _ _ h => h) rfl (Held.y_len rfl rfl (by kernel_rfl)) c0_3 ?_
    simp only [Act.put, List.setIfInBounds_toArray, List.set_cons_zero, List.set_cons_succ]
    refine Held.take (v := .slice A m c) 13 (some 44) rfl rfl (by kernel_rfl) (by kernel_rfl) (by kernel_rfl) (fun _ _ _ h => h) rfl (Held.y_move rfl rfl) c0_3 ?_
    simp only [Act.put, List.setIfInBounds_toArray, List.set_cons_zero, List.set_cons_succ]
    refine Held.take (v := .int .i64 (m : Int)) 14 (some 45) rfl rfl (by kernel_rfl) (by kernel_rfl) (by kernel_rfl) (fun _ _ _ h => h) rfl (Held.y_len rfl rfl (by kernel_rfl)) c0_3 ?_
    simp only [Act.put, List.setIfInBounds_toArray, List.set_cons_zero, List.set_cons_succ]
    refine Held.take (v := .bool true) 15 (some 46) rfl rfl (by kernel_rfl) (by kernel_rfl) (by kernel_rfl) (fun _ _ _ h => h) rfl (Held.y_eqi rfl rfl rfl) c0_3 ?_
    simp only [Act.put, List.setIfInBounds_toArray, List.set_cons_zero, List.set_cons_succ]
    refine Held.take (v := .bool true) 16 (some 47) rfl rfl (by kernel_rfl) (by kernel_rfl) (by kernel_rfl) (fun _ _ _ h => h) rfl (Held.y_pick rfl rfl rfl) c0_3 ?_
    simp only [Act.put, List.setIfInBounds_toArray, List.set_cons_zero, List.set_cons_succ]
    refine Held.take (v := .bool true) 17 (some 48) rfl rfl (by kernel_rfl) (by kernel_rfl) (by kernel_rfl) (fun _ _ _ h => h) rfl (Held.y_move rfl rfl) c0_3 ?_
    simp only [Act.put, List.setIfInBounds_toArray, List.set_cons_zero, List.set_cons_succ]
    refine Held.take (v := .agg (arr .u8 key)) 18 (some 49) rfl rfl (by kernel_rfl) (by kernel_rfl) (by kernel_rfl) (fun _ _ _ h => h) rfl (Held.y_load_Row (zs := key) rfl rfl Tryd.underlying22 info_k HK.out (fun W hW => Row.below kz hW kz.lt)) c0_3 ?_
    simp only [Act.put, List.setIfInBounds_toArray, List.set_cons_zero, List.set_cons_succ]
    refine Held.take (v := .agg (arr .u8 nonce)) 19 (some 50) rfl rfl (by kernel_rfl) (by kernel_rfl) (by kernel_rfl) (fun _ _ _ h => h) rfl (Held.y_load_Row (zs := nonce) rfl rfl Tryd.underlying24 info_n HN.out (fun W hW => Row.below nz hW nz.lt)) c0_3 ?_
    simp only [Act.put, List.setIfInBounds_toArray, List.set_cons_zero, List.set_cons_succ]
    refine Held.take (v := .int .u32 ctr) 20 (some 51) rfl rfl (by kernel_rfl) (by kernel_rfl) (by kernel_rfl) (fun _ _ _ h => h) rfl (Held.y_move rfl rfl) c0_3 ?_
    simp only [Act.put, List.setIfInBounds_toArray, List.set_cons_zero, List.set_cons_succ]
    refine Held.take (v := .int .i64 (t : Int)) 21 (some 52) rfl rfl (by kernel_rfl) (by kernel_rfl) (by kernel_rfl) (fun _ _ _ h => h) rfl (Held.y_move rfl rfl) c0_3 ?_
    simp only [Act.put, List.setIfInBounds_toArray, List.set_cons_zero, List.set_cons_succ]
    refine Held.take (v := .int .u32 (t : Int)) 22 (some 53) rfl rfl (by kernel_rfl) (by kernel_rfl) (by kernel_rfl) (fun _ _ _ h => h) rfl (Held.y_convert rfl rfl (by kernel_rfl) Tryd.underlying23 hcv) c0_3 ?_
    simp only [Act.put, List.setIfInBounds_toArray, List.set_cons_zero, List.set_cons_succ]
    refine Held.take (v := .int .u32 (addI ctr (t : Int))) 23 (some 54) rfl rfl (by kernel_rfl) (by kernel_rfl) (by kernel_rfl) (fun _ _ _ h => h) rfl (Held.y_int rfl rfl rfl (fun W => Held.run_add _ _ (by rw [IntKind.wrap_u32]; rfl) W)) c0_3 ?_
    simp only [Act.put, List.setIfInBounds_toArray, List.set_cons_zero, List.set_cons_succ]
    refine Held.take (v := .slice A m c) 24 (some 55) rfl rfl (by kernel_rfl) (by kernel_rfl) (by kernel_rfl) (fun _ _ _ h => h) rfl (Held.y_move rfl rfl) c0_3 ?_
    simp only [Act.put, List.setIfInBounds_toArray, List.set_cons_zero, List.set_cons_succ]
    refine Held.take (v := .int .i64 (t : Int)) 25 (some 56) rfl rfl (by kernel_rfl) (by kernel_rfl) (by kernel_rfl) (fun _ _ _ h => h) rfl (Held.y_move rfl rfl) c0_3 ?_
    simp only [Act.put, List.setIfInBounds_toArray, List.set_cons_zero, List.set_cons_succ]
    refine Held.take (v := .int .i64 ((64 * t : Nat) : Int)) 26 (some 57) rfl rfl (by kernel_rfl) (by kernel_rfl) (by kernel_rfl) (fun _ _ _ h => h) rfl (Held.y_int rfl rfl rfl (fun W => Held.run_mul _ _ hmul W)) c0_3 ?_
    simp only [Act.put, List.setIfInBounds_toArray, List.set_cons_zero, List.set_cons_succ]
    refine Held.take (v := .slice Ab (m - 64 * t) (c - 64 * t)) 27 (some 58) rfl rfl (by kernel_rfl) (by kernel_rfl) (by kernel_rfl) (fun _ _ _ h => h) rfl (Held.y_slice rfl hsb) c0_3 ?_
    simp only [Act.put, List.setIfInBounds_toArray, List.set_cons_zero, List.set_cons_succ]
    refine Held.take (v := .slice Ax m cx) 29 (some 60) rfl rfl (by kernel_rfl) (by kernel_rfl) (by kernel_rfl) (fun _ _ _ h => h) rfl (Held.y_move rfl rfl) c0_3 ?_
    simp only [Act.put, List.setIfInBounds_toArray, List.set_cons_zero, List.set_cons_succ]
    refine Held.take (v := .int .i64 (t : Int)) 30 (some 61) rfl rfl (by kernel_rfl) (by kernel_rfl) (by kernel_rfl) (fun _ _ _ h => h) rfl (Held.y_move rfl rfl) c0_3 ?_
    simp only [Act.put, List.setIfInBounds_toArray, List.set_cons_zero, List.set_cons_succ]
    refine Held.take (v := .int .i64 ((64 * t : Nat) : Int)) 31 (some 62) rfl rfl (by kernel_rfl) (by kernel_rfl) (by kernel_rfl) (fun _ _ _ h => h) rfl (Held.y_int rfl rfl rfl (fun W => Held.run_mul _ _ hmul W)) c0_3 ?_
    simp only [Act.put, List.setIfInBounds_toArray, List.set_cons_zero, List.set_cons_succ]
    refine Held.take (v := .slice Ac (m - 64 * t) (cx - 64 * t)) 32 (some 63) rfl rfl (by kernel_rfl) (by kernel_rfl) (by kernel_rfl) (fun _ _ _ h => h) rfl (Held.y_slice rfl hsc) c0_3 ?_
    simp only [Act.put, List.setIfInBounds_toArray, List.set_cons_zero, List.set_cons_succ]
    refine Held.one 28 (by kernel_rfl) ?_
    refine Held.op_call 28 (some 59) 15 #[.agg (arr .u8 key), .agg (arr .u8 nonce), .int .u32 (addI ctr (t : Int)), .slice Ab (m - 64 * t) (c - 64 * t)] rfl rfl rfl rfl (enters_of Tryd.func15 (by kernel_rfl) rfl) (by simp [Act.eval])
      (xor_any key nonce (addI ctr (t : Int)) _ Ab (m - 64 * t) (c - 64 * t) _ _ (ib.below c0_3) c0_3.size (by omega) (by omega) HK.out hkb HN.out hnb (r32_add _ _) (hT.below (b.trans (c0_3.mono b.size)) hT.lt)) ?_
    rintro e w4 ⟨A28, c28, rfl, h281, h282, o28, b4⟩
    have c0_4 := c0_3.trans (b4.mono c0_3.size)
    have i28 := o28.ints HXY.out
    rw [← HDt.out] at i28
    clear o28
    refine ⟨_, rfl, c0_4, ?_⟩
    simp only [Act.put, List.setIfInBounds_toArray, List.set_cons_zero, List.set_cons_succ]
    refine Held.one 33 (by kernel_rfl) ?_
    refine Held.op_call 33 (some 64) 16 #[.slice A28 (m - 64 * t) c28, .slice Ac (m - 64 * t) (cx - 64 * t)] rfl rfl rfl rfl (enters_of Tryd.func16 (by kernel_rfl) rfl) (by simp [Act.eval])
      (Held.bytes_same _ _ _ _ _ _ _ _ _ _ _ i28 (ic.below c0_4) rfl) ?_
    rintro e w5 ⟨rfl, b5⟩
    have c0_5 := c0_4.trans (b5.mono c0_4.size)
    refine ⟨_, rfl, c0_5, ?_⟩
    simp only [Act.put, List.setIfInBounds_toArray, List.set_cons_zero, List.set_cons_succ]
    refine Held.take (v := .bool true) 34 (some 65) rfl rfl (by kernel_rfl) (by kernel_rfl) (by kernel_rfl) (fun _ _ _ h => h) rfl (Held.y_pick rfl rfl rfl) c0_5 ?_
    simp only [Act.put, List.setIfInBounds_toArray, List.set_cons_zero, List.set_cons_succ]
    refine Held.take (v := .bool true) 35 (some 10) rfl rfl (by kernel_rfl) (by kernel_rfl) (by kernel_rfl) (fun _ _ _ h => h) rfl (Held.y_assign rfl rfl) c0_5 ?_
    simp only [Act.put, List.setIfInBounds_toArray, List.set_cons_zero, List.set_cons_succ]
    refine wpAnyH_done (by kernel_rfl) ?_ _
    go_wp2_with fail
    go_ret
    exact ⟨rfl, b.trans (c0_5.mono b.size)⟩

theorem walk (z0 : List Int) (z1 : List Int) (a2 : Int) (a3 : Option Addr) (len3 cap3 : Nat) (z3 : List Int) (a4 : Int) (w : World) (zl0 : z0.length = 32) (zw0 : ∀ z ∈ z0, (Lit.int .u8 z).wf = true) (zl1 : z1.length = 12) (zw1 : ∀ z ∈ z1, (Lit.int .u8 z).wf = true) (w2 : (Lit.int .u32 a2).wf = true) (w3 : IsRow .u8 w a3 len3 cap3 z3) (w4 : (Lit.int .i64 a4).wf = true) (hL : laidMetH Tryd.prog laidList w) :
    Calls Tryd.prog 5 #[.agg (Mem.arr .u8 z0), .agg (Mem.arr .u8 z1), .int .u32 a2, .slice a3 len3 cap3, .int .i64 a4] w fun e w' => e = .returned (.bool true) ∧ Below w.heap.size w w' := by
  obtain ⟨h, hl, hm⟩ := ints_of_row w3
  exact start z0 z1 a2 a3 len3 cap3 _ a4 w h hl (flat_of_row w3) zl0 (bs_of_wf zw0) zl1 (bs_of_wf zw1) (r32_of_wf w2) (chacha_of_laid hL)

set_option maxRecDepth 100000 in
theorem door_met (os : Os) (args : Array Value) : laidMetH Tryd.prog laidList ((World.doorLaid Tryd.prog 400 os).forCall (fun _ _ => 0) ⟨#[], args, []⟩).memory :=
  laidMetH_of_parts3 (fuel := 8) (laidMet_of_run' 8 (by kernel_rfl) (by kernel_rfl)) (by kernel_rfl) (by kernel_rfl)

set_option maxRecDepth 100000 in
theorem lifted (os : Os) (started : os.Started) (H : Type) (enc : TypeId × Value → H) :
    ReturnsInHanded {} Tryd.checked os 5 .any (fun w args => (Rows.chachaBackSpec.pre enc Tryd.prog Tryd.f5 [] false w args ∧ laidMetH Tryd.prog laidList w) ∧ sizedMet enc Tryd.prog Tryd.f5 (OpenSpec.ofChange Rows.chachaBackSpec) false w args)
      (Rows.chachaBackSpec.post enc Tryd.prog Tryd.f5 false true false false) := by
  refine returnsInHanded_of_change_and (C := Tryd.checked) (X := fun w _ => laidMetH Tryd.prog laidList w) (fun _ _ _ hh h => h.of_heap hh) own started (by kernel_rfl) Tryd.func5
    (ChangeSpec.witness_shaped (enc := enc) (C := Tryd.checked) (os := os) (X := fun w _ => laidMetH Tryd.prog laidList w) false (World.doorLaid Tryd.prog 400 os) #[.agg (Array.replicate 32 (.int .u8 0)), .agg (Array.replicate 12 (.int .u8 0)), .int .u32 0, .slice none 0 0, .int .i64 0] 8 rfl (World.shaped_of_RefB (by kernel_rfl) (by kernel_rfl)) (by kernel_rfl) (by kernel_rfl) (by kernel_rfl) (door_met os _)) ?_
  intro W base args ds gs before hval0 hW _ _ hL _
  have hval : ∀ (j : Nat) t v, Tryd.f5.params[j]? = some t → args[j]? = some v → Value.okWide Tryd.prog W .any base t v := hval0
  have hW' := hW
  obtain ⟨p, q, hA0, hV, rfl, hfz, hnd⟩ := hW
  have hA : DataW.TrodAll enc Tryd.prog W 0 (fun _ => true) true Tryd.f5.params.toList args.toList ds p := hA0
  rw [Tryd.params5] at hA hval
  obtain ⟨v0, vs0, d0, ds0, p0, q0, hargs, rfl, rfl, h0, r0⟩ := trodAll_cons hA
  obtain ⟨v1, vs1, d1, ds1, p1, q1, rfl, rfl, rfl, h1, r1⟩ := trodAll_cons r0
  obtain ⟨v2, vs2, d2, ds2, p2, q2, rfl, rfl, rfl, h2, r2⟩ := trodAll_cons r1
  obtain ⟨v3, vs3, d3, ds3, p3, q3, rfl, rfl, rfl, h3, r3⟩ := trodAll_cons r2
  obtain ⟨v4, vs4, d4, ds4, p4, q4, rfl, rfl, rfl, h4, r4⟩ := trodAll_cons r3
  obtain ⟨rfl, rfl, rfl⟩ := trodAll_nil r4
  obtain rfl : args = #[v0, v1, v2, v3, v4] := by cases args; simp_all
  obtain ⟨rfl, rfl⟩ := trodVars_none hV
  have k0 := h0
  have lt0 : ∀ x ∈ p0, x.block < W.heap.size := by obtain ⟨m, hm⟩ := k0; exact DataW.trod_lt m _ _ _ hm
  obtain ⟨z0, rfl, zl0, zw0⟩ := Mem.open_arr Tryd.underlying22 Tryd.underlying5 (by kernel_rfl) (by kernel_rfl) (hval 0 22 v0 rfl rfl) h0
  have k1 := h1
  have lt1 : ∀ x ∈ p1, x.block < W.heap.size := by obtain ⟨m, hm⟩ := k1; exact DataW.trod_lt m _ _ _ hm
  obtain ⟨z1, rfl, zl1, zw1⟩ := Mem.open_arr Tryd.underlying24 Tryd.underlying5 (by kernel_rfl) (by kernel_rfl) (hval 1 24 v1 rfl rfl) h1
  obtain ⟨a2, rfl, rfl, rfl, w2⟩ := open_int Tryd.underlying23 (hval 2 23 v2 rfl rfl) h2
  obtain ⟨a3, len3, cap3, rfl⟩ := okWide_slice Tryd.underlying38 (hval 3 38 v3 rfl rfl)
  have k3 := h3
  have lt3 : ∀ x ∈ p3, x.block < W.heap.size := by obtain ⟨m, hm⟩ := k3; exact DataW.trod_lt m _ _ _ hm
  obtain ⟨z3, w3⟩ : ∃ zs, IsRow .u8 W a3 len3 cap3 zs := by
    obtain ⟨fuel, hf⟩ := h3
    rcases open_ints Tryd.underlying38 Tryd.underlying5 (by kernel_rfl) hf with ⟨hcs, _⟩ | ⟨x, l, c, zs, hcs, _, hl, hm, hz, _, hcell, hwz⟩
    · simp [Value.cells] at hcs
      obtain ⟨rfl, rfl, rfl⟩ := hcs
      exact ⟨[], .inl ⟨rfl, rfl, rfl, rfl⟩⟩
    · simp [Value.cells] at hcs
      obtain ⟨rfl, rfl, rfl⟩ := hcs
      exact ⟨zs, .inr ⟨_, rfl, hl, hm, by simpa using hz, hcell, hwz⟩⟩
  obtain ⟨a4, rfl, rfl, rfl, w4⟩ := open_int Tryd.underlying3 (hval 4 3 v4 rfl rfl) h4
  clear hA0 hval0
  refine (walk z0 z1 a2 a3 len3 cap3 z3 a4 W zl0 zw0 zl1 zw1 w2 w3 w4 hL).mono fun e W' ⟨he, bel⟩ => ?_
  subst he
  exact ⟨_, rfl, _, _, _, [], _, [], hW', trodAll_mk1 (shut_bool Tryd.underlying4 _), (trodAll_cons_mk (Below.trod laidOut (by kernel_rfl) (of_decide_eq_true (by kernel_rfl)) k0 bel lt0) (trodAll_cons_mk (Below.trod laidOut (by kernel_rfl) (of_decide_eq_true (by kernel_rfl)) k1 bel lt1) (trodAll_cons_mk (shut_int Tryd.underlying23 w2) (trodAll_cons_mk (Below.trod laidOut (by kernel_rfl) (of_decide_eq_true (by kernel_rfl)) k3 bel lt3) (trodAll_cons_mk (shut_int Tryd.underlying3 w4) trodAll_mk0))))), rfl, bel.frame _, fun h => by cases h⟩

theorem over : Rows.chachaBackRow.holds Tryd.pinned (OpenSpec.ofChange Rows.chachaBackSpec) :=
  OpenClaim.holds_of_wide 5 Tryd.f5 rfl rfl rfl rfl rfl rfl rfl ⟨rfl, rfl, rfl, rfl, rfl⟩ rfl rfl rfl rfl rfl (by kernel_rfl) Tryd.func5 (by kernel_rfl)
    (of_decide_eq_true (by kernel_rfl)) (by unfold Func.isWrapper; first | (rw [if_pos (by decide +kernel)]; kernel_rfl) | (rw [if_neg (by decide +kernel)]; exact ⟨rfl, rfl⟩))
    (fun os started H enc _ => lifted os started H enc)

/-- the statement -/
theorem proved : Rows.ChachaBackCardSaid :=
  Claim7.holds_tied_plain_at .later [] [.widerDeep] true (true, "57614f36d60a4ae182e142bcf2b768e680c0ae2dfdb0ed6f7e128fd9b707c59f") false
    over (fun _ h => by cases h) (by kernel_rfl) (fun _ h => by cases h) chachaBack_row_tie rfl ⟨rfl, rfl⟩ (by kernel_rfl) rfl
    (fun f fn hf hfn => by
      obtain rfl : f = 5 := Option.some.inj ((show Tryd.prog.funcNamed "domino/dominolaw05.ChachaBack" = some 5 by kernel_rfl).symm.trans hf) |>.symm
      obtain rfl : fn = Tryd.f5 := (Option.some.inj (Tryd.func5.symm.trans hfn)).symm
      exact ⟨by kernel_rfl, fun j t ht => by
        rw [Tryd.params5] at ht
        have hm : t ∈ [22, 24, 23, 38, 3] := by simpa using Array.mem_of_getElem? ht
        have hall : ([22, 24, 23, 38, 3].all fun u => !Tryd.prog.wantsStandIn u) = true := by kernel_rfl
        exact (show Tryd.prog.wantsStandIn t = false by simpa using List.all_eq_true.1 hall t hm)⟩)
    (by kernel_rfl)
#print axioms proved
end Go.Proofs.YtejgnjnmlojdpaaDoor.chachaBack
