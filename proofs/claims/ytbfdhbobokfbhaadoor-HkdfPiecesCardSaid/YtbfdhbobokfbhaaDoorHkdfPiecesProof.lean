/-
  The law HkdfPieces of package dominolaw04 returns true for every key, info and number: bytes are made piece by piece, each of the one ahead of it, of what is said, and of its number. The tables of package sha hold what the program's text lays.
-/
import Derived.Test.YtbfdhbobokfbhaaDoorRows
import Derived.Test.YtbfdhbobokfbhaaDoorCards
import Derived.Test.YtbfdhbobokfbhaaDoorTie
import Derived.SevenTiedAt
import Derived.WalkKit
import Derived.ProofKit
import Derived.OpenShut
import Derived.ShutString
import Derived.ChangeOld
import Derived.Below
import Derived.LaidMore
import Derived.Stop.Joined
import Derived.Test.YtbfdhbobokfbhaaDoorHkA
import Derived.Test.YtbfdhbobokfbhaaDoorLaid
import Derived.Test.YtbfdhbobokfbhaaDoorReg
import Derived.Test.YtbfdhbobokfbhaaDoorMid
import Derived.Test.YtbfdhbobokfbhaaDoorArrP
namespace Go.Proofs.YtbfdhbobokfbhaaDoor.hkdfPieces
open Go.ChangeShapes Go.WideShapes Go.ChangeAt Go.RowKit
open Go.ChangeMaps (open_string shut_string)
open Go.Shelf Go.Proofs.YtbfdhbobokfbhaaDoor.Mem Go.Proofs.YtbfdhbobokfbhaaDoor.Help Go.Proofs.YtbfdhbobokfbhaaDoor.Sum Go.Proofs.YtbfdhbobokfbhaaDoor.Sha Go.Proofs.YtbfdhbobokfbhaaDoor.Mac Go.Proofs.YtbfdhbobokfbhaaDoor.Hkdf Go.Proofs.YtbfdhbobokfbhaaDoor
set_option linter.unusedVariables false

theorem own : ownKnob Tryd.prog.godebug = none := by kernel_rfl
theorem laidOut : laidOutB Tryd.prog = true := by kernel_rfl

/-- what a slice that came in leads to -/
def IsRow (k : IntKind) (w : World) (a : Option Addr) (len cap : Nat) (zs : List Int) : Prop :=
  (a = none ∧ len = 0 ∧ cap = 0 ∧ zs = []) ∨
  ∃ x, a = some x ∧ len ≤ cap ∧ cap ≤ maxLen ∧ zs.length = cap ∧ (∀ i, i < zs.length → w.cell? (x.add i) = some (.int k (zs.getD i 0))) ∧ ∀ n ∈ zs, (Lit.int k n).wf = true

def laidList : List (String × DataW Unit) := [("domino/sha.start", Rows.laid_domino_sha_start), ("domino/sha.words", Rows.laid_domino_sha_words)]

attribute [local irreducible] wpList Calls

set_option maxRecDepth 100000 in
set_option maxHeartbeats 1000000 in
theorem start (key info : List Int) (hkl : key.length = 32) (hkw : ∀ z ∈ key, (Lit.int .u8 z).wf = true) (A : Option Addr) (m c : Nat) (x : Int) (w : World) (h : Ints w .u8 w.heap.size A m info) (hmc : m ≤ c) (hcm : c ≤ maxLen) (hT : Tab w 0 Sum.H0 ∧ Tab w 1 Sum.K) :
    Calls Tryd.prog 5 #[.agg (arr .u8 key), .slice A m c, .int .i64 x] w fun e w' => e = .returned (.bool true) ∧ Below w.heap.size w w' := by
  have HKL := Lib.hid hkl
  have HKW := Lib.hid hkw
  clear hkl hkw
  obtain ⟨N, hN, hN1, hN8⟩ : ∃ N : Nat, wrap64 (1 + wrap64 ((IntKind.u64.wrap x).tmod 8)) = (N : Int) ∧ 1 ≤ N ∧ N ≤ 8 := by
    have hu0 : 0 ≤ IntKind.u64.wrap x := by rw [IntKind.wrap_u64]; omega
    have h1 : 0 ≤ IntKind.u64.wrap x % 8 := Int.emod_nonneg _ (by omega)
    have h2 : IntKind.u64.wrap x % 8 < 8 := Int.emod_lt_of_pos _ (by omega)
    rw [Int.tmod_eq_emod_of_nonneg hu0]
    exact ⟨(1 + IntKind.u64.wrap x % 8).toNat, by unfold wrap64; omega, by omega, by omega⟩
  obtain ⟨L, hL, hLN⟩ : ∃ L : Nat, 32 * (N : Int) = (L : Int) ∧ L = 32 * N := ⟨32 * N, by omega, rfl⟩
  have HL := Lib.hid hL
  have hL1 : 1 ≤ L := by omega
  have hL8 : L ≤ 256 := by omega
  have HLN := Lib.hid hLN
  clear hL hLN
  by_cases hbig : 300 < m
  · have q1 : (300 : Int) < (m : Int) := by omega
    go_enter Tryd.func5, Tryd.ntmps5
    go_wp2_with (refine wpList_box_Row rfl 25 _ rfl .u8 key rfl HKW.out ?_; intro w1 r1 g1 z1)
    have b1 : Below w.heap.size w w1 := (Below.refl _ w).grown g1 (Nat.le_refl _) (by simp)
    refine (awake4_any _ (hT.1.below b1 hT.1.lt) (hT.2.below b1 hT.2.lt)).mono ?_
    rintro e w' ⟨rfl, hb⟩
    go_wp2_with fail
    go_ret
    exact ⟨rfl, b1.trans (hb.mono b1.size)⟩
  have q1 : ¬ (300 : Int) < (m : Int) := by omega
  go_enter Tryd.func5, Tryd.ntmps5
  go_wp2_with (first
    | (refine wpList_box_Row rfl 25 _ rfl .u8 key rfl HKW.out ?_; intro w1 r1 g1 z1)
    | (refine wpList_load_Row (w := w1) rfl 25 _ rfl w.heap.size rfl 25 .u8 _ r1 32 5 Tryd.underlying25 info_32 HKL.out ?_))
  have b1 : Below w.heap.size w w1 := (Below.refl _ w).grown g1 (Nat.le_refl _) (by simp)
  rw [HL.out]
  refine (expand_any key info HKL.out HKW.out _ A m c L w1 (h.below b1) b1.size hmc hcm (by omega) (by omega) (by omega) (hT.1.below b1 hT.1.lt) (hT.2.below b1 hT.2.lt)).mono ?_
  rintro e w2 ⟨gb, rfl, hgb, rb, hb⟩
  have b2 := b1.trans (hb.mono b1.size)
  have r2 := r1.below hb r1.lt
  clear hb b1 r1 g1 z1
  have hL2 : (L : Int) = 32 * (N : Int) := HL.out.symm
  go_wp2_with fail
  refine (awake4_any _ (hT.1.below b2 hT.1.lt) (hT.2.below b2 hT.2.lt)).mono ?_
  rintro e w3 ⟨rfl, hb⟩
  have b3 := b2.trans (hb.mono b2.size)
  have r3 := r2.below hb r2.lt
  have rb3 := rb.below hb rb.lt
  clear hb b2 r2 rb
  go_wp2_with fail
  clear hL2
  go_loopw [9, 10] (fun v i wr => ∃ (k : Nat) (A4 : Option Addr) (n4 c4 : Nat), k ≤ N ∧ i = .int .i64 k ∧ v = .slice A4 n4 c4 ∧ n4 ≤ 32 ∧ Ints wr .u8 wr.heap.size A4 n4 (piece key info k) ∧ Row wr w.heap.size 25 .u8 key ∧ Row wr gb 5 .u8 (out key info L) ∧ Below w.heap.size w wr) (fun _ i _ => N - (intOf i).toNat)
  case atStart => exact ⟨0, none, 0, 0, by omega, rfl, rfl, by omega, Ints.nil _ _ _ _, r3, rb3, b3⟩
  case round =>
    clear r3 rb3 b3
    obtain ⟨k, A4, n4, c4, hk, rfl, rfl, hn4, i4, rk, rb, bk⟩ := hrel
    by_cases hlt : k < N
    · have hlt' : (k : Int) < (N : Int) := by omega
      have hk0 : (0 : Int) ≤ (k : Int) := by omega
      obtain ⟨q, hqk⟩ : ∃ q : Nat, q = 32 * k := ⟨_, rfl⟩
      have hmid : ∀ W, (Instr.sliceAt 22 (.slice (some ⟨gb, 0, none⟩) L L) (some (.int .i64 (32 * (k : Int)))) (some (.int .i64 (32 * (k : Int) + 32))) none).run Tryd.prog W = .ok (.slice (some ⟨gb, q, none⟩) 32 (L - q)) W := by
        intro W
        have e1 : (32 * (k : Int)) = ((q : Nat) : Int) := by omega
        have e2 : (q : Int) + 32 = ((q + 32 : Nat) : Int) := by omega
        rw [e1, e2]
        have := run_mid (P := Tryd.prog) (t := 22) (e := 5) Tryd.underlying22 (by kernel_rfl) gb L (cap := L) (l := q) (h := q + 32) (by omega) (by have := HLN.out; omega) (by have := HLN.out; omega) W
        rwa [Nat.add_sub_cancel_left] at this
      have HOL := Lib.hid (out_length key info L (by omega))
      have HPC := Lib.hid (show ((out key info L).drop q).take 32 = piece key info (k + 1) by rw [hqk]; exact out_piece key info k L (by have := HLN.out; omega) (by omega))
      have HI4 := Lib.hid i4.1
      have HIN := Lib.hid h.1
      have ih := (h.below bk).more bk.size
      have kq := rk.ints (n := 32) (by rw [HKL.out]; omega)
      rw [List.take_of_length_le (by rw [HKL.out]; omega)] at kq
      have HX := Lib.hid (show tag key ((([] ++ piece key info k) ++ info) ++ [(k : Int) + 1]) = piece key info (k + 1) by simp [piece])
      have hw4 : IntKind.i64.wrap ((k : Int) + 1) = (k : Int) + 1 := by simp [IntKind.wrap, IntKind.bits, IntKind.signed]; omega
      have hw5 : IntKind.u8.wrap ((k : Int) + 1) = (k : Int) + 1 := by simp [IntKind.wrap, IntKind.bits, IntKind.signed]; omega
      have hw6 : ∀ z ∈ [(k : Int) + 1], (Lit.int .u8 z).wf = true := fun z hz => by rw [List.mem_singleton.1 hz]; exact wf_of_byte (by omega)
      have hsb := bk.size
      have hqL : q + 32 ≤ L := by have := HLN.out; omega
      have HQK := Lib.hid hqk
      clear hqk
      have HMID := Lib.hid hmid
      clear hmid
      go_wp2_with fail
      have hmid := HMID.out
      refine wp_region_held (S := fun W => Below wr.heap.size wr W) (by kernel_rfl) ?_
      change wpAnyH _ _ _ _ _ _ _ _ wr.drew
      have c0_0 := (Below.refl wr.heap.size wr).drew
      refine Held.take (v := .slice (some ⟨w.heap.size, 0, none⟩) 32 32) 0 (some 47) rfl rfl (by kernel_rfl) (by kernel_rfl) (by kernel_rfl) (fun _ _ _ h => h) rfl (Held.y_slice rfl (fun W => run_slice_arr_all (P := Tryd.prog) 25 5 32 w.heap.size W Tryd.underlying25 (by kernel_rfl) (by omega))) c0_0 ?_
      simp only [Act.put, List.setIfInBounds_toArray, List.set_cons_zero, List.set_cons_succ]
      refine Held.take (v := .slice A4 n4 c4) 1 (some 48) rfl rfl (by kernel_rfl) (by kernel_rfl) (by kernel_rfl) (fun _ _ _ h => h) rfl (Held.y_move rfl rfl) c0_0 ?_
      simp only [Act.put, List.setIfInBounds_toArray, List.set_cons_zero, List.set_cons_succ]
      refine Held.take (v := .slice A m c) 3 (some 50) rfl rfl (by kernel_rfl) (by kernel_rfl) (by kernel_rfl) (fun _ _ _ h => h) rfl (Held.y_move rfl rfl) c0_0 ?_
      simp only [Act.put, List.setIfInBounds_toArray, List.set_cons_zero, List.set_cons_succ]
      refine Held.take (v := .int .i64 (k : Int)) 5 (some 52) rfl rfl (by kernel_rfl) (by kernel_rfl) (by kernel_rfl) (fun _ _ _ h => h) rfl (Held.y_move rfl rfl) c0_0 ?_
      simp only [Act.put, List.setIfInBounds_toArray, List.set_cons_zero, List.set_cons_succ]
      refine Held.take (v := .int .i64 ((k : Int) + 1)) 6 (some 53) rfl rfl (by kernel_rfl) (by kernel_rfl) (by kernel_rfl) (fun _ _ _ h => h) rfl (Held.y_int rfl rfl rfl (Held.run_add 3 .i64 hw4)) c0_0 ?_
      simp only [Act.put, List.setIfInBounds_toArray, List.set_cons_zero, List.set_cons_succ]
      refine Held.take (v := .int .u8 ((k : Int) + 1)) 7 (some 54) rfl rfl (by kernel_rfl) (by kernel_rfl) (by kernel_rfl) (fun _ _ _ h => h) rfl (Held.y_convert rfl rfl (by kernel_rfl) Tryd.underlying5 hw5) c0_0 ?_
      simp only [Act.put, List.setIfInBounds_toArray, List.set_cons_zero, List.set_cons_succ]
      refine Held.three 2 8 11 (by kernel_rfl) ?_ ?_ ?_
      · refine Held.op_append_keep 2 (some 49) 22 rfl rfl rfl rfl wr.heap.size 5 .u8 1 Tryd.underlying22 info_u8 (.slice none 0 0) [] rfl (Mem.Own.nil _ _ _ _) _ A4 n4 c4 (piece key info k) rfl (i4.below c0_0) (by simp; omega) (by omega) c0_0.size ?_
        intro A2_ n2_ c2_ w1 o2 g2 h2a h2b h2l j2 kp2
        have c0_1 := c0_0.grown g2 c0_0.size (fun r e => by cases e)
        have l2 : n2_ = n4 := by have h := h2l.out; rw [List.length_append, List.length_nil] at h; have := HI4.out; omega
        refine ⟨c0_1, ?_⟩
        simp only [Act.put, List.setIfInBounds_toArray, List.set_cons_zero, List.set_cons_succ]
        refine Held.three 4 8 11 (by kernel_rfl) ?_ ?_ ?_
        · refine Held.op_append_keep 4 (some 51) 22 rfl rfl rfl rfl wr.heap.size 5 .u8 1 Tryd.underlying22 info_u8 (.slice A2_ n2_ c2_) _ rfl o2 _ A m c info rfl (ih.below c0_1) (by rw [h2l.out]; omega) (by omega) c0_1.size ?_
          intro A4_ n4_ c4_ w2 o4 g4 h4a h4b h4l j4 kp4
          have c0_2 := c0_1.grown g4 c0_1.size (fun r e => (o2.2.lt r e).1)
          have l4 : n4_ = n2_ + m := by have h := h4l.out; rw [List.length_append, h2l.out] at h; have := HIN.out; omega
          refine ⟨c0_2, ?_⟩
          simp only [Act.put, List.setIfInBounds_toArray, List.set_cons_zero, List.set_cons_succ]
          refine Held.two 8 11 (by kernel_rfl) ?_ ?_
          · refine Held.op_build_Row 8 (some 55) 22 5 1 .u8 1 [(k : Int) + 1] rfl rfl rfl rfl Tryd.underlying22 info_u8 (by simp [Act.eval]) rfl (by omega) (by omega) hw6 ?_
            intro p8 w3 r8 b3 q8
            have lo8 := Nat.le_trans c0_2.size q8.out
            have ne8 : some p8 ≠ (Value.slice A4_ n4_ c4_).ownBlock := Held.apart_new o4 q8.out
            have c0_3 := c0_2.trans (b3.mono c0_2.size)
            have o4 := o4.below b3
            have j4 := (j4.below b3).more b3.size
            refine ⟨c0_3, ?_⟩
            simp only [Act.put, List.setIfInBounds_toArray, List.set_cons_zero, List.set_cons_succ]
            refine Held.two 9 11 (by kernel_rfl) ?_ ?_
            · refine Held.op_append_keep 9 (some 56) 22 rfl rfl rfl rfl wr.heap.size 5 .u8 1 Tryd.underlying22 info_u8 (.slice A4_ n4_ c4_) _ rfl o4 _ (some ⟨p8, 0, none⟩) 1 1 [(k : Int) + 1] rfl (by have := r8.ints (n := 1) (by simp); simpa using this) (by rw [h4l.out]; omega) (by omega) c0_3.size ?_
              intro A9_ n9_ c9_ w4 o9 g9 h9a h9b h9l j9 kp9
              have c0_4 := c0_3.grown g9 c0_3.size (fun r e => (o4.2.lt r e).1)
              obtain ⟨r8, ne8⟩ := kp9 _ _ _ _ r8 ne8
              have l9 : n9_ = n4_ + 1 := by have h := h9l.out; rw [List.length_append, h4l.out] at h; simp at h; omega
              refine ⟨c0_4, ?_⟩
              simp only [Act.put, List.setIfInBounds_toArray, List.set_cons_zero, List.set_cons_succ]
              refine Held.two 10 11 (by kernel_rfl) ?_ ?_
              · refine Held.op_call 10 (some 57) 17 #[.slice (some ⟨w.heap.size, 0, none⟩) 32 32, .slice A9_ n9_ c9_] rfl rfl rfl rfl (enters_of Tryd.func17 (by kernel_rfl) rfl) (by simp [Act.eval])
                  (rtag_any _ _ _ _ 32 32 n9_ c9_ key _ _ (kq.below c0_4) c0_4.size (by omega) j9 (Nat.le_refl _) (by omega)) ?_
                rw [HX.out]
                rintro e w5 ⟨rfl, b5⟩
                have c0_5 := c0_4.trans (b5.mono c0_4.size)
                have r8 := r8.below b5 r8.lt
                have o9 := o9.below b5
                have j9 := (j9.below b5).more b5.size
                refine ⟨_, rfl, c0_5, ?_⟩
                simp only [Act.put, List.setIfInBounds_toArray, List.set_cons_zero, List.set_cons_succ]
                refine Held.one 11 (by kernel_rfl) ?_
                refine Held.op_alloc_Row 11 (some 11) 25 .u8 32 rfl rfl rfl rfl zero_32 ?_
                intro p11 w6 r11 b6 q11
                have lo11 := Nat.le_trans c0_5.size q11.out
                have ne11 : some p11 ≠ (Value.slice A9_ n9_ c9_).ownBlock := Held.apart_new o9 q11.out
                have c0_6 := c0_5.trans (b6.mono c0_5.size)
                have o9 := o9.below b6
                have j9 := (j9.below b6).more b6.size
                have r8 := r8.below b6 r8.lt
                refine ⟨c0_6, ?_⟩
                simp only [Act.put, List.setIfInBounds_toArray, List.set_cons_zero, List.set_cons_succ]
                refine Held.one 12 (by kernel_rfl) ?_
                refine Held.op_store_RowL 12 none 25 p11 25 .u8 _ (piece key info (k + 1)) rfl rfl rfl rfl rfl rfl r11 32 info_32 (piece_length _ _ _) (by simp) (piece_wf _ _ _) ?_
                intro w7 rS gS
                have c0_7 := c0_6.grown gS c0_6.size (fun r e => by cases e; exact lo11)
                refine ⟨c0_7, ?_⟩
                simp only [Act.put]
                refine wpAnyH_done (by kernel_rfl) ?_ _
                have rbE := rb.below c0_7 rb.lt
                have rkE := rk.below c0_7 rk.lt
                have bE := bk.trans (c0_7.mono bk.size)
                have iE := rbE.mid (l := q) (m := 32) (by rw [HOL.out]; omega)
                rw [HPC.out] at iE
                have iS := rS.ints (n := 32) (by rw [piece_length]; omega)
                rw [List.take_of_length_le (by rw [piece_length]; omega)] at iS
                go_wp2_with fail
                refine wp_region_held (S := fun W => Below w7.heap.size w7 W) (by kernel_rfl) ?_
                change wpAnyH _ _ _ _ _ _ _ _ w7.drew
                have d0 := (Below.refl w7.heap.size w7).drew
                refine Held.take (v := .slice (some ⟨p11, 0, none⟩) 32 32) 0 (some 65) rfl rfl (by kernel_rfl) (by kernel_rfl) (by kernel_rfl) (fun _ _ _ h => h) rfl (Held.y_slice rfl (fun W => run_slice_arr_all (P := Tryd.prog) 25 5 32 p11 W Tryd.underlying25 (by kernel_rfl) (by omega))) d0 ?_
                simp only [Act.put, List.setIfInBounds_toArray, List.set_cons_zero, List.set_cons_succ]
                refine Held.take (v := .string (strOfNums (piece key info (k + 1)))) 1 (some 66) rfl rfl (by kernel_rfl) (by kernel_rfl) (by kernel_rfl) (fun _ _ _ h => h) rfl (Held.y_text rfl rfl Tryd.underlying22 Tryd.underlying5 Tryd.underlying9 (fun W h => iS.below h)) d0 ?_
                simp only [Act.put, List.setIfInBounds_toArray, List.set_cons_zero, List.set_cons_succ]
                refine Held.take (v := .slice (some ⟨gb, q, none⟩) 32 (L - q)) 2 (some 67) rfl rfl (by kernel_rfl) (by kernel_rfl) (by kernel_rfl) (fun _ _ _ h => h) rfl (Held.y_move rfl rfl) d0 ?_
                simp only [Act.put, List.setIfInBounds_toArray, List.set_cons_zero, List.set_cons_succ]
                refine Held.take (v := .string (strOfNums (piece key info (k + 1)))) 3 (some 68) rfl rfl (by kernel_rfl) (by kernel_rfl) (by kernel_rfl) (fun _ _ _ h => h) rfl (Held.y_text rfl rfl Tryd.underlying22 Tryd.underlying5 Tryd.underlying9 (fun W h => iE.below h)) d0 ?_
                simp only [Act.put, List.setIfInBounds_toArray, List.set_cons_zero, List.set_cons_succ]
                refine Held.take (v := .bool false) 4 (some 69) rfl rfl (by kernel_rfl) (by kernel_rfl) (by kernel_rfl) (fun _ _ _ h => h) rfl (Held.y_nes rfl rfl rfl) d0 ?_
                simp only [Act.put, List.setIfInBounds_toArray, List.set_cons_zero, List.set_cons_succ]
                refine wpAnyH_done (by kernel_rfl) ?_ _
                go_wp2_with fail
                go_roundw
                case rel => exact ⟨k + 1, _, 32, _, by omega, by go_num, rfl, by omega, iE.below d0, rkE.below d0 rkE.lt, rbE.below d0 rbE.lt, bE.trans (d0.mono bE.size)⟩
                case measure => simp [intOf]; omega
              · refine Held.op_alloc_Row 11 (some 11) 25 .u8 32 rfl rfl rfl rfl zero_32 ?_
                intro p11 w5 r11 b5 q11
                have lo11 := Nat.le_trans c0_4.size q11.out
                have ne11 : some p11 ≠ (Value.slice A9_ n9_ c9_).ownBlock := Held.apart_new o9 q11.out
                have c0_5 := c0_4.trans (b5.mono c0_4.size)
                have o9 := o9.below b5
                have j9 := (j9.below b5).more b5.size
                have r8 := r8.below b5 r8.lt
                refine ⟨c0_5, ?_⟩
                simp only [Act.put, List.setIfInBounds_toArray, List.set_cons_zero, List.set_cons_succ]
                refine Held.one 10 (by kernel_rfl) ?_
                refine Held.op_call 10 (some 57) 17 #[.slice (some ⟨w.heap.size, 0, none⟩) 32 32, .slice A9_ n9_ c9_] rfl rfl rfl rfl (enters_of Tryd.func17 (by kernel_rfl) rfl) (by simp [Act.eval])
                  (rtag_any _ _ _ _ 32 32 n9_ c9_ key _ _ (kq.below c0_5) c0_5.size (by omega) j9 (Nat.le_refl _) (by omega)) ?_
                rw [HX.out]
                rintro e w6 ⟨rfl, b6⟩
                have c0_6 := c0_5.trans (b6.mono c0_5.size)
                have r8 := r8.below b6 r8.lt
                have r11 := r11.below b6 r11.lt
                have o9 := o9.below b6
                have j9 := (j9.below b6).more b6.size
                refine ⟨_, rfl, c0_6, ?_⟩
                simp only [Act.put, List.setIfInBounds_toArray, List.set_cons_zero, List.set_cons_succ]
                refine Held.one 12 (by kernel_rfl) ?_
                refine Held.op_store_RowL 12 none 25 p11 25 .u8 _ (piece key info (k + 1)) rfl rfl rfl rfl rfl rfl r11 32 info_32 (piece_length _ _ _) (by simp) (piece_wf _ _ _) ?_
                intro w7 rS gS
                have c0_7 := c0_6.grown gS c0_6.size (fun r e => by cases e; exact lo11)
                refine ⟨c0_7, ?_⟩
                simp only [Act.put]
                refine wpAnyH_done (by kernel_rfl) ?_ _
                have rbE := rb.below c0_7 rb.lt
                have rkE := rk.below c0_7 rk.lt
                have bE := bk.trans (c0_7.mono bk.size)
                have iE := rbE.mid (l := q) (m := 32) (by rw [HOL.out]; omega)
                rw [HPC.out] at iE
                have iS := rS.ints (n := 32) (by rw [piece_length]; omega)
                rw [List.take_of_length_le (by rw [piece_length]; omega)] at iS
                go_wp2_with fail
                refine wp_region_held (S := fun W => Below w7.heap.size w7 W) (by kernel_rfl) ?_
                change wpAnyH _ _ _ _ _ _ _ _ w7.drew
                have d0 := (Below.refl w7.heap.size w7).drew
                refine Held.take (v := .slice (some ⟨p11, 0, none⟩) 32 32) 0 (some 65) rfl rfl (by kernel_rfl) (by kernel_rfl) (by kernel_rfl) (fun _ _ _ h => h) rfl (Held.y_slice rfl (fun W => run_slice_arr_all (P := Tryd.prog) 25 5 32 p11 W Tryd.underlying25 (by kernel_rfl) (by omega))) d0 ?_
                simp only [Act.put, List.setIfInBounds_toArray, List.set_cons_zero, List.set_cons_succ]
                refine Held.take (v := .string (strOfNums (piece key info (k + 1)))) 1 (some 66) rfl rfl (by kernel_rfl) (by kernel_rfl) (by kernel_rfl) (fun _ _ _ h => h) rfl (Held.y_text rfl rfl Tryd.underlying22 Tryd.underlying5 Tryd.underlying9 (fun W h => iS.below h)) d0 ?_
                simp only [Act.put, List.setIfInBounds_toArray, List.set_cons_zero, List.set_cons_succ]
                refine Held.take (v := .slice (some ⟨gb, q, none⟩) 32 (L - q)) 2 (some 67) rfl rfl (by kernel_rfl) (by kernel_rfl) (by kernel_rfl) (fun _ _ _ h => h) rfl (Held.y_move rfl rfl) d0 ?_
                simp only [Act.put, List.setIfInBounds_toArray, List.set_cons_zero, List.set_cons_succ]
                refine Held.take (v := .string (strOfNums (piece key info (k + 1)))) 3 (some 68) rfl rfl (by kernel_rfl) (by kernel_rfl) (by kernel_rfl) (fun _ _ _ h => h) rfl (Held.y_text rfl rfl Tryd.underlying22 Tryd.underlying5 Tryd.underlying9 (fun W h => iE.below h)) d0 ?_
                simp only [Act.put, List.setIfInBounds_toArray, List.set_cons_zero, List.set_cons_succ]
                refine Held.take (v := .bool false) 4 (some 69) rfl rfl (by kernel_rfl) (by kernel_rfl) (by kernel_rfl) (fun _ _ _ h => h) rfl (Held.y_nes rfl rfl rfl) d0 ?_
                simp only [Act.put, List.setIfInBounds_toArray, List.set_cons_zero, List.set_cons_succ]
                refine wpAnyH_done (by kernel_rfl) ?_ _
                go_wp2_with fail
                go_roundw
                case rel => exact ⟨k + 1, _, 32, _, by omega, by go_num, rfl, by omega, iE.below d0, rkE.below d0 rkE.lt, rbE.below d0 rbE.lt, bE.trans (d0.mono bE.size)⟩
                case measure => simp [intOf]; omega
            · refine Held.op_alloc_Row 11 (some 11) 25 .u8 32 rfl rfl rfl rfl zero_32 ?_
              intro p11 w4 r11 b4 q11
              have lo11 := Nat.le_trans c0_3.size q11.out
              have ne11 : some p11 ≠ (Value.slice A4_ n4_ c4_).ownBlock := Held.apart_new o4 q11.out
              have c0_4 := c0_3.trans (b4.mono c0_3.size)
              have o4 := o4.below b4
              have j4 := (j4.below b4).more b4.size
              have r8 := r8.below b4 r8.lt
              refine ⟨c0_4, ?_⟩
              simp only [Act.put, List.setIfInBounds_toArray, List.set_cons_zero, List.set_cons_succ]
              refine Held.one 9 (by kernel_rfl) ?_
              refine Held.op_append_keep 9 (some 56) 22 rfl rfl rfl rfl wr.heap.size 5 .u8 1 Tryd.underlying22 info_u8 (.slice A4_ n4_ c4_) _ rfl o4 _ (some ⟨p8, 0, none⟩) 1 1 [(k : Int) + 1] rfl (by have := r8.ints (n := 1) (by simp); simpa using this) (by rw [h4l.out]; omega) (by omega) c0_4.size ?_
              intro A9_ n9_ c9_ w5 o9 g9 h9a h9b h9l j9 kp9
              have c0_5 := c0_4.grown g9 c0_4.size (fun r e => (o4.2.lt r e).1)
              obtain ⟨r8, ne8⟩ := kp9 _ _ _ _ r8 ne8
              obtain ⟨r11, ne11⟩ := kp9 _ _ _ _ r11 ne11
              have l9 : n9_ = n4_ + 1 := by have h := h9l.out; rw [List.length_append, h4l.out] at h; simp at h; omega
              refine ⟨c0_5, ?_⟩
              simp only [Act.put, List.setIfInBounds_toArray, List.set_cons_zero, List.set_cons_succ]
              refine Held.one 10 (by kernel_rfl) ?_
              refine Held.op_call 10 (some 57) 17 #[.slice (some ⟨w.heap.size, 0, none⟩) 32 32, .slice A9_ n9_ c9_] rfl rfl rfl rfl (enters_of Tryd.func17 (by kernel_rfl) rfl) (by simp [Act.eval])
                (rtag_any _ _ _ _ 32 32 n9_ c9_ key _ _ (kq.below c0_5) c0_5.size (by omega) j9 (Nat.le_refl _) (by omega)) ?_
              rw [HX.out]
              rintro e w6 ⟨rfl, b6⟩
              have c0_6 := c0_5.trans (b6.mono c0_5.size)
              have r8 := r8.below b6 r8.lt
              have r11 := r11.below b6 r11.lt
              have o9 := o9.below b6
              have j9 := (j9.below b6).more b6.size
              refine ⟨_, rfl, c0_6, ?_⟩
              simp only [Act.put, List.setIfInBounds_toArray, List.set_cons_zero, List.set_cons_succ]
              refine Held.one 12 (by kernel_rfl) ?_
              refine Held.op_store_RowL 12 none 25 p11 25 .u8 _ (piece key info (k + 1)) rfl rfl rfl rfl rfl rfl r11 32 info_32 (piece_length _ _ _) (by simp) (piece_wf _ _ _) ?_
              intro w7 rS gS
              have c0_7 := c0_6.grown gS c0_6.size (fun r e => by cases e; exact lo11)
              refine ⟨c0_7, ?_⟩
              simp only [Act.put]
              refine wpAnyH_done (by kernel_rfl) ?_ _
              have rbE := rb.below c0_7 rb.lt
              have rkE := rk.below c0_7 rk.lt
              have bE := bk.trans (c0_7.mono bk.size)
              have iE := rbE.mid (l := q) (m := 32) (by rw [HOL.out]; omega)
              rw [HPC.out] at iE
              have iS := rS.ints (n := 32) (by rw [piece_length]; omega)
              rw [List.take_of_length_le (by rw [piece_length]; omega)] at iS
              go_wp2_with fail
              refine wp_region_held (S := fun W => Below w7.heap.size w7 W) (by kernel_rfl) ?_
              change wpAnyH _ _ _ _ _ _ _ _ w7.drew
              have d0 := (Below.refl w7.heap.size w7).drew
              refine Held.take (v := .slice (some ⟨p11, 0, none⟩) 32 32) 0 (some 65) rfl rfl (by kernel_rfl) (by kernel_rfl) (by kernel_rfl) (fun _ _ _ h => h) rfl (Held.y_slice rfl (fun W => run_slice_arr_all (P := Tryd.prog) 25 5 32 p11 W Tryd.underlying25 (by kernel_rfl) (by omega))) d0 ?_
              simp only [Act.put, List.setIfInBounds_toArray, List.set_cons_zero, List.set_cons_succ]
              refine Held.take (v := .string (strOfNums (piece key info (k + 1)))) 1 (some 66) rfl rfl (by kernel_rfl) (by kernel_rfl) (by kernel_rfl) (fun _ _ _ h => h) rfl (Held.y_text rfl rfl Tryd.underlying22 Tryd.underlying5 Tryd.underlying9 (fun W h => iS.below h)) d0 ?_
              simp only [Act.put, List.setIfInBounds_toArray, List.set_cons_zero, List.set_cons_succ]
              refine Held.take (v := .slice (some ⟨gb, q, none⟩) 32 (L - q)) 2 (some 67) rfl rfl (by kernel_rfl) (by kernel_rfl) (by kernel_rfl) (fun _ _ _ h => h) rfl (Held.y_move rfl rfl) d0 ?_
              simp only [Act.put, List.setIfInBounds_toArray, List.set_cons_zero, List.set_cons_succ]
              refine Held.take (v := .string (strOfNums (piece key info (k + 1)))) 3 (some 68) rfl rfl (by kernel_rfl) (by kernel_rfl) (by kernel_rfl) (fun _ _ _ h => h) rfl (Held.y_text rfl rfl Tryd.underlying22 Tryd.underlying5 Tryd.underlying9 (fun W h => iE.below h)) d0 ?_
              simp only [Act.put, List.setIfInBounds_toArray, List.set_cons_zero, List.set_cons_succ]
              refine Held.take (v := .bool false) 4 (some 69) rfl rfl (by kernel_rfl) (by kernel_rfl) (by kernel_rfl) (fun _ _ _ h => h) rfl (Held.y_nes rfl rfl rfl) d0 ?_
              simp only [Act.put, List.setIfInBounds_toArray, List.set_cons_zero, List.set_cons_succ]
              refine wpAnyH_done (by kernel_rfl) ?_ _
              go_wp2_with fail
              go_roundw
              case rel => exact ⟨k + 1, _, 32, _, by omega, by go_num, rfl, by omega, iE.below d0, rkE.below d0 rkE.lt, rbE.below d0 rbE.lt, bE.trans (d0.mono bE.size)⟩
              case measure => simp [intOf]; omega
          · refine Held.op_alloc_Row 11 (some 11) 25 .u8 32 rfl rfl rfl rfl zero_32 ?_
            intro p11 w3 r11 b3 q11
            have lo11 := Nat.le_trans c0_2.size q11.out
            have ne11 : some p11 ≠ (Value.slice A4_ n4_ c4_).ownBlock := Held.apart_new o4 q11.out
            have c0_3 := c0_2.trans (b3.mono c0_2.size)
            have o4 := o4.below b3
            have j4 := (j4.below b3).more b3.size
            refine ⟨c0_3, ?_⟩
            simp only [Act.put, List.setIfInBounds_toArray, List.set_cons_zero, List.set_cons_succ]
            refine Held.one 8 (by kernel_rfl) ?_
            refine Held.op_build_Row 8 (some 55) 22 5 1 .u8 1 [(k : Int) + 1] rfl rfl rfl rfl Tryd.underlying22 info_u8 (by simp [Act.eval]) rfl (by omega) (by omega) hw6 ?_
            intro p8 w4 r8 b4 q8
            have lo8 := Nat.le_trans c0_3.size q8.out
            have ne8 : some p8 ≠ (Value.slice A4_ n4_ c4_).ownBlock := Held.apart_new o4 q8.out
            have c0_4 := c0_3.trans (b4.mono c0_3.size)
            have o4 := o4.below b4
            have j4 := (j4.below b4).more b4.size
            have r11 := r11.below b4 r11.lt
            refine ⟨c0_4, ?_⟩
            simp only [Act.put, List.setIfInBounds_toArray, List.set_cons_zero, List.set_cons_succ]
            refine Held.one 9 (by kernel_rfl) ?_
            refine Held.op_append_keep 9 (some 56) 22 rfl rfl rfl rfl wr.heap.size 5 .u8 1 Tryd.underlying22 info_u8 (.slice A4_ n4_ c4_) _ rfl o4 _ (some ⟨p8, 0, none⟩) 1 1 [(k : Int) + 1] rfl (by have := r8.ints (n := 1) (by simp); simpa using this) (by rw [h4l.out]; omega) (by omega) c0_4.size ?_
            intro A9_ n9_ c9_ w5 o9 g9 h9a h9b h9l j9 kp9
            have c0_5 := c0_4.grown g9 c0_4.size (fun r e => (o4.2.lt r e).1)
            obtain ⟨r11, ne11⟩ := kp9 _ _ _ _ r11 ne11
            obtain ⟨r8, ne8⟩ := kp9 _ _ _ _ r8 ne8
            have l9 : n9_ = n4_ + 1 := by have h := h9l.out; rw [List.length_append, h4l.out] at h; simp at h; omega
            refine ⟨c0_5, ?_⟩
            simp only [Act.put, List.setIfInBounds_toArray, List.set_cons_zero, List.set_cons_succ]
            refine Held.one 10 (by kernel_rfl) ?_
            refine Held.op_call 10 (some 57) 17 #[.slice (some ⟨w.heap.size, 0, none⟩) 32 32, .slice A9_ n9_ c9_] rfl rfl rfl rfl (enters_of Tryd.func17 (by kernel_rfl) rfl) (by simp [Act.eval])
              (rtag_any _ _ _ _ 32 32 n9_ c9_ key _ _ (kq.below c0_5) c0_5.size (by omega) j9 (Nat.le_refl _) (by omega)) ?_
            rw [HX.out]
            rintro e w6 ⟨rfl, b6⟩
            have c0_6 := c0_5.trans (b6.mono c0_5.size)
            have r11 := r11.below b6 r11.lt
            have r8 := r8.below b6 r8.lt
            have o9 := o9.below b6
            have j9 := (j9.below b6).more b6.size
            refine ⟨_, rfl, c0_6, ?_⟩
            simp only [Act.put, List.setIfInBounds_toArray, List.set_cons_zero, List.set_cons_succ]
            refine Held.one 12 (by kernel_rfl) ?_
            refine Held.op_store_RowL 12 none 25 p11 25 .u8 _ (piece key info (k + 1)) rfl rfl rfl rfl rfl rfl r11 32 info_32 (piece_length _ _ _) (by simp) (piece_wf _ _ _) ?_
            intro w7 rS gS
            have c0_7 := c0_6.grown gS c0_6.size (fun r e => by cases e; exact lo11)
            refine ⟨c0_7, ?_⟩
            simp only [Act.put]
            refine wpAnyH_done (by kernel_rfl) ?_ _
            have rbE := rb.below c0_7 rb.lt
            have rkE := rk.below c0_7 rk.lt
            have bE := bk.trans (c0_7.mono bk.size)
            have iE := rbE.mid (l := q) (m := 32) (by rw [HOL.out]; omega)
            rw [HPC.out] at iE
            have iS := rS.ints (n := 32) (by rw [piece_length]; omega)
            rw [List.take_of_length_le (by rw [piece_length]; omega)] at iS
            go_wp2_with fail
            refine wp_region_held (S := fun W => Below w7.heap.size w7 W) (by kernel_rfl) ?_
            change wpAnyH _ _ _ _ _ _ _ _ w7.drew
            have d0 := (Below.refl w7.heap.size w7).drew
            refine Held.take (v := .slice (some ⟨p11, 0, none⟩) 32 32) 0 (some 65) rfl rfl (by kernel_rfl) (by kernel_rfl) (by kernel_rfl) (fun _ _ _ h => h) rfl (Held.y_slice rfl (fun W => run_slice_arr_all (P := Tryd.prog) 25 5 32 p11 W Tryd.underlying25 (by kernel_rfl) (by omega))) d0 ?_
            simp only [Act.put, List.setIfInBounds_toArray, List.set_cons_zero, List.set_cons_succ]
            refine Held.take (v := .string (strOfNums (piece key info (k + 1)))) 1 (some 66) rfl rfl (by kernel_rfl) (by kernel_rfl) (by kernel_rfl) (fun _ _ _ h => h) rfl (Held.y_text rfl rfl Tryd.underlying22 Tryd.underlying5 Tryd.underlying9 (fun W h => iS.below h)) d0 ?_
            simp only [Act.put, List.setIfInBounds_toArray, List.set_cons_zero, List.set_cons_succ]
            refine Held.take (v := .slice (some ⟨gb, q, none⟩) 32 (L - q)) 2 (some 67) rfl rfl (by kernel_rfl) (by kernel_rfl) (by kernel_rfl) (fun _ _ _ h => h) rfl (Held.y_move rfl rfl) d0 ?_
            simp only [Act.put, List.setIfInBounds_toArray, List.set_cons_zero, List.set_cons_succ]
            refine Held.take (v := .string (strOfNums (piece key info (k + 1)))) 3 (some 68) rfl rfl (by kernel_rfl) (by kernel_rfl) (by kernel_rfl) (fun _ _ _ h => h) rfl (Held.y_text rfl rfl Tryd.underlying22 Tryd.underlying5 Tryd.underlying9 (fun W h => iE.below h)) d0 ?_
            simp only [Act.put, List.setIfInBounds_toArray, List.set_cons_zero, List.set_cons_succ]
            refine Held.take (v := .bool false) 4 (some 69) rfl rfl (by kernel_rfl) (by kernel_rfl) (by kernel_rfl) (fun _ _ _ h => h) rfl (Held.y_nes rfl rfl rfl) d0 ?_
            simp only [Act.put, List.setIfInBounds_toArray, List.set_cons_zero, List.set_cons_succ]
            refine wpAnyH_done (by kernel_rfl) ?_ _
            go_wp2_with fail
            go_roundw
            case rel => exact ⟨k + 1, _, 32, _, by omega, by go_num, rfl, by omega, iE.below d0, rkE.below d0 rkE.lt, rbE.below d0 rbE.lt, bE.trans (d0.mono bE.size)⟩
            case measure => simp [intOf]; omega
        · refine Held.op_build_Row 8 (some 55) 22 5 1 .u8 1 [(k : Int) + 1] rfl rfl rfl rfl Tryd.underlying22 info_u8 (by simp [Act.eval]) rfl (by omega) (by omega) hw6 ?_
          intro p8 w2 r8 b2 q8
          have lo8 := Nat.le_trans c0_1.size q8.out
          have ne8 : some p8 ≠ (Value.slice A2_ n2_ c2_).ownBlock := Held.apart_new o2 q8.out
          have c0_2 := c0_1.trans (b2.mono c0_1.size)
          have o2 := o2.below b2
          have j2 := (j2.below b2).more b2.size
          refine ⟨c0_2, ?_⟩
          simp only [Act.put, List.setIfInBounds_toArray, List.set_cons_zero, List.set_cons_succ]
          refine Held.two 4 11 (by kernel_rfl) ?_ ?_
          · refine Held.op_append_keep 4 (some 51) 22 rfl rfl rfl rfl wr.heap.size 5 .u8 1 Tryd.underlying22 info_u8 (.slice A2_ n2_ c2_) _ rfl o2 _ A m c info rfl (ih.below c0_2) (by rw [h2l.out]; omega) (by omega) c0_2.size ?_
            intro A4_ n4_ c4_ w3 o4 g4 h4a h4b h4l j4 kp4
            have c0_3 := c0_2.grown g4 c0_2.size (fun r e => (o2.2.lt r e).1)
            obtain ⟨r8, ne8⟩ := kp4 _ _ _ _ r8 ne8
            have l4 : n4_ = n2_ + m := by have h := h4l.out; rw [List.length_append, h2l.out] at h; have := HIN.out; omega
            refine ⟨c0_3, ?_⟩
            simp only [Act.put, List.setIfInBounds_toArray, List.set_cons_zero, List.set_cons_succ]
            refine Held.two 9 11 (by kernel_rfl) ?_ ?_
            · refine Held.op_append_keep 9 (some 56) 22 rfl rfl rfl rfl wr.heap.size 5 .u8 1 Tryd.underlying22 info_u8 (.slice A4_ n4_ c4_) _ rfl o4 _ (some ⟨p8, 0, none⟩) 1 1 [(k : Int) + 1] rfl (by have := r8.ints (n := 1) (by simp); simpa using this) (by rw [h4l.out]; omega) (by omega) c0_3.size ?_
              intro A9_ n9_ c9_ w4 o9 g9 h9a h9b h9l j9 kp9
              have c0_4 := c0_3.grown g9 c0_3.size (fun r e => (o4.2.lt r e).1)
              obtain ⟨r8, ne8⟩ := kp9 _ _ _ _ r8 ne8
              have l9 : n9_ = n4_ + 1 := by have h := h9l.out; rw [List.length_append, h4l.out] at h; simp at h; omega
              refine ⟨c0_4, ?_⟩
              simp only [Act.put, List.setIfInBounds_toArray, List.set_cons_zero, List.set_cons_succ]
              refine Held.two 10 11 (by kernel_rfl) ?_ ?_
              · refine Held.op_call 10 (some 57) 17 #[.slice (some ⟨w.heap.size, 0, none⟩) 32 32, .slice A9_ n9_ c9_] rfl rfl rfl rfl (enters_of Tryd.func17 (by kernel_rfl) rfl) (by simp [Act.eval])
                  (rtag_any _ _ _ _ 32 32 n9_ c9_ key _ _ (kq.below c0_4) c0_4.size (by omega) j9 (Nat.le_refl _) (by omega)) ?_
                rw [HX.out]
                rintro e w5 ⟨rfl, b5⟩
                have c0_5 := c0_4.trans (b5.mono c0_4.size)
                have r8 := r8.below b5 r8.lt
                have o9 := o9.below b5
                have j9 := (j9.below b5).more b5.size
                refine ⟨_, rfl, c0_5, ?_⟩
                simp only [Act.put, List.setIfInBounds_toArray, List.set_cons_zero, List.set_cons_succ]
                refine Held.one 11 (by kernel_rfl) ?_
                refine Held.op_alloc_Row 11 (some 11) 25 .u8 32 rfl rfl rfl rfl zero_32 ?_
                intro p11 w6 r11 b6 q11
                have lo11 := Nat.le_trans c0_5.size q11.out
                have ne11 : some p11 ≠ (Value.slice A9_ n9_ c9_).ownBlock := Held.apart_new o9 q11.out
                have c0_6 := c0_5.trans (b6.mono c0_5.size)
                have o9 := o9.below b6
                have j9 := (j9.below b6).more b6.size
                have r8 := r8.below b6 r8.lt
                refine ⟨c0_6, ?_⟩
                simp only [Act.put, List.setIfInBounds_toArray, List.set_cons_zero, List.set_cons_succ]
                refine Held.one 12 (by kernel_rfl) ?_
                refine Held.op_store_RowL 12 none 25 p11 25 .u8 _ (piece key info (k + 1)) rfl rfl rfl rfl rfl rfl r11 32 info_32 (piece_length _ _ _) (by simp) (piece_wf _ _ _) ?_
                intro w7 rS gS
                have c0_7 := c0_6.grown gS c0_6.size (fun r e => by cases e; exact lo11)
                refine ⟨c0_7, ?_⟩
                simp only [Act.put]
                refine wpAnyH_done (by kernel_rfl) ?_ _
                have rbE := rb.below c0_7 rb.lt
                have rkE := rk.below c0_7 rk.lt
                have bE := bk.trans (c0_7.mono bk.size)
                have iE := rbE.mid (l := q) (m := 32) (by rw [HOL.out]; omega)
                rw [HPC.out] at iE
                have iS := rS.ints (n := 32) (by rw [piece_length]; omega)
                rw [List.take_of_length_le (by rw [piece_length]; omega)] at iS
                go_wp2_with fail
                refine wp_region_held (S := fun W => Below w7.heap.size w7 W) (by kernel_rfl) ?_
                change wpAnyH _ _ _ _ _ _ _ _ w7.drew
                have d0 := (Below.refl w7.heap.size w7).drew
                refine Held.take (v := .slice (some ⟨p11, 0, none⟩) 32 32) 0 (some 65) rfl rfl (by kernel_rfl) (by kernel_rfl) (by kernel_rfl) (fun _ _ _ h => h) rfl (Held.y_slice rfl (fun W => run_slice_arr_all (P := Tryd.prog) 25 5 32 p11 W Tryd.underlying25 (by kernel_rfl) (by omega))) d0 ?_
                simp only [Act.put, List.setIfInBounds_toArray, List.set_cons_zero, List.set_cons_succ]
                refine Held.take (v := .string (strOfNums (piece key info (k + 1)))) 1 (some 66) rfl rfl (by kernel_rfl) (by kernel_rfl) (by kernel_rfl) (fun _ _ _ h => h) rfl (Held.y_text rfl rfl Tryd.underlying22 Tryd.underlying5 Tryd.underlying9 (fun W h => iS.below h)) d0 ?_
                simp only [Act.put, List.setIfInBounds_toArray, List.set_cons_zero, List.set_cons_succ]
                refine Held.take (v := .slice (some ⟨gb, q, none⟩) 32 (L - q)) 2 (some 67) rfl rfl (by kernel_rfl) (by kernel_rfl) (by kernel_rfl) (fun _ _ _ h => h) rfl (Held.y_move rfl rfl) d0 ?_
                simp only [Act.put, List.setIfInBounds_toArray, List.set_cons_zero, List.set_cons_succ]
                refine Held.take (v := .string (strOfNums (piece key info (k + 1)))) 3 (some 68) rfl rfl (by kernel_rfl) (by kernel_rfl) (by kernel_rfl) (fun _ _ _ h => h) rfl (Held.y_text rfl rfl Tryd.underlying22 Tryd.underlying5 Tryd.underlying9 (fun W h => iE.below h)) d0 ?_
                simp only [Act.put, List.setIfInBounds_toArray, List.set_cons_zero, List.set_cons_succ]
                refine Held.take (v := .bool false) 4 (some 69) rfl rfl (by kernel_rfl) (by kernel_rfl) (by kernel_rfl) (fun _ _ _ h => h) rfl (Held.y_nes rfl rfl rfl) d0 ?_
                simp only [Act.put, List.setIfInBounds_toArray, List.set_cons_zero, List.set_cons_succ]
                refine wpAnyH_done (by kernel_rfl) ?_ _
                go_wp2_with fail
                go_roundw
                case rel => exact ⟨k + 1, _, 32, _, by omega, by go_num, rfl, by omega, iE.below d0, rkE.below d0 rkE.lt, rbE.below d0 rbE.lt, bE.trans (d0.mono bE.size)⟩
                case measure => simp [intOf]; omega
              · refine Held.op_alloc_Row 11 (some 11) 25 .u8 32 rfl rfl rfl rfl zero_32 ?_
                intro p11 w5 r11 b5 q11
                have lo11 := Nat.le_trans c0_4.size q11.out
                have ne11 : some p11 ≠ (Value.slice A9_ n9_ c9_).ownBlock := Held.apart_new o9 q11.out
                have c0_5 := c0_4.trans (b5.mono c0_4.size)
                have o9 := o9.below b5
                have j9 := (j9.below b5).more b5.size
                have r8 := r8.below b5 r8.lt
                refine ⟨c0_5, ?_⟩
                simp only [Act.put, List.setIfInBounds_toArray, List.set_cons_zero, List.set_cons_succ]
                refine Held.one 10 (by kernel_rfl) ?_
                refine Held.op_call 10 (some 57) 17 #[.slice (some ⟨w.heap.size, 0, none⟩) 32 32, .slice A9_ n9_ c9_] rfl rfl rfl rfl (enters_of Tryd.func17 (by kernel_rfl) rfl) (by simp [Act.eval])
                  (rtag_any _ _ _ _ 32 32 n9_ c9_ key _ _ (kq.below c0_5) c0_5.size (by omega) j9 (Nat.le_refl _) (by omega)) ?_
                rw [HX.out]
                rintro e w6 ⟨rfl, b6⟩
                have c0_6 := c0_5.trans (b6.mono c0_5.size)
                have r8 := r8.below b6 r8.lt
                have r11 := r11.below b6 r11.lt
                have o9 := o9.below b6
                have j9 := (j9.below b6).more b6.size
                refine ⟨_, rfl, c0_6, ?_⟩
                simp only [Act.put, List.setIfInBounds_toArray, List.set_cons_zero, List.set_cons_succ]
                refine Held.one 12 (by kernel_rfl) ?_
                refine Held.op_store_RowL 12 none 25 p11 25 .u8 _ (piece key info (k + 1)) rfl rfl rfl rfl rfl rfl r11 32 info_32 (piece_length _ _ _) (by simp) (piece_wf _ _ _) ?_
                intro w7 rS gS
                have c0_7 := c0_6.grown gS c0_6.size (fun r e => by cases e; exact lo11)
                refine ⟨c0_7, ?_⟩
                simp only [Act.put]
                refine wpAnyH_done (by kernel_rfl) ?_ _
                have rbE := rb.below c0_7 rb.lt
                have rkE := rk.below c0_7 rk.lt
                have bE := bk.trans (c0_7.mono bk.size)
                have iE := rbE.mid (l := q) (m := 32) (by rw [HOL.out]; omega)
                rw [HPC.out] at iE
                have iS := rS.ints (n := 32) (by rw [piece_length]; omega)
                rw [List.take_of_length_le (by rw [piece_length]; omega)] at iS
                go_wp2_with fail
                refine wp_region_held (S := fun W => Below w7.heap.size w7 W) (by kernel_rfl) ?_
                change wpAnyH _ _ _ _ _ _ _ _ w7.drew
                have d0 := (Below.refl w7.heap.size w7).drew
                refine Held.take (v := .slice (some ⟨p11, 0, none⟩) 32 32) 0 (some 65) rfl rfl (by kernel_rfl) (by kernel_rfl) (by kernel_rfl) (fun _ _ _ h => h) rfl (Held.y_slice rfl (fun W => run_slice_arr_all (P := Tryd.prog) 25 5 32 p11 W Tryd.underlying25 (by kernel_rfl) (by omega))) d0 ?_
                simp only [Act.put, List.setIfInBounds_toArray, List.set_cons_zero, List.set_cons_succ]
                refine Held.take (v := .string (strOfNums (piece key info (k + 1)))) 1 (some 66) rfl rfl (by kernel_rfl) (by kernel_rfl) (by kernel_rfl) (fun _ _ _ h => h) rfl (Held.y_text rfl rfl Tryd.underlying22 Tryd.underlying5 Tryd.underlying9 (fun W h => iS.below h)) d0 ?_
                simp only [Act.put, List.setIfInBounds_toArray, List.set_cons_zero, List.set_cons_succ]
                refine Held.take (v := .slice (some ⟨gb, q, none⟩) 32 (L - q)) 2 (some 67) rfl rfl (by kernel_rfl) (by kernel_rfl) (by kernel_rfl) (fun _ _ _ h => h) rfl (Held.y_move rfl rfl) d0 ?_
                simp only [Act.put, List.setIfInBounds_toArray, List.set_cons_zero, List.set_cons_succ]
                refine Held.take (v := .string (strOfNums (piece key info (k + 1)))) 3 (some 68) rfl rfl (by kernel_rfl) (by kernel_rfl) (by kernel_rfl) (fun _ _ _ h => h) rfl (Held.y_text rfl rfl Tryd.underlying22 Tryd.underlying5 Tryd.underlying9 (fun W h => iE.below h)) d0 ?_
                simp only [Act.put, List.setIfInBounds_toArray, List.set_cons_zero, List.set_cons_succ]
                refine Held.take (v := .bool false) 4 (some 69) rfl rfl (by kernel_rfl) (by kernel_rfl) (by kernel_rfl) (fun _ _ _ h => h) rfl (Held.y_nes rfl rfl rfl) d0 ?_
                simp only [Act.put, List.setIfInBounds_toArray, List.set_cons_zero, List.set_cons_succ]
                refine wpAnyH_done (by kernel_rfl) ?_ _
                go_wp2_with fail
                go_roundw
                case rel => exact ⟨k + 1, _, 32, _, by omega, by go_num, rfl, by omega, iE.below d0, rkE.below d0 rkE.lt, rbE.below d0 rbE.lt, bE.trans (d0.mono bE.size)⟩
                case measure => simp [intOf]; omega
            · refine Held.op_alloc_Row 11 (some 11) 25 .u8 32 rfl rfl rfl rfl zero_32 ?_
              intro p11 w4 r11 b4 q11
              have lo11 := Nat.le_trans c0_3.size q11.out
              have ne11 : some p11 ≠ (Value.slice A4_ n4_ c4_).ownBlock := Held.apart_new o4 q11.out
              have c0_4 := c0_3.trans (b4.mono c0_3.size)
              have o4 := o4.below b4
              have j4 := (j4.below b4).more b4.size
              have r8 := r8.below b4 r8.lt
              refine ⟨c0_4, ?_⟩
              simp only [Act.put, List.setIfInBounds_toArray, List.set_cons_zero, List.set_cons_succ]
              refine Held.one 9 (by kernel_rfl) ?_
              refine Held.op_append_keep 9 (some 56) 22 rfl rfl rfl rfl wr.heap.size 5 .u8 1 Tryd.underlying22 info_u8 (.slice A4_ n4_ c4_) _ rfl o4 _ (some ⟨p8, 0, none⟩) 1 1 [(k : Int) + 1] rfl (by have := r8.ints (n := 1) (by simp); simpa using this) (by rw [h4l.out]; omega) (by omega) c0_4.size ?_
              intro A9_ n9_ c9_ w5 o9 g9 h9a h9b h9l j9 kp9
              have c0_5 := c0_4.grown g9 c0_4.size (fun r e => (o4.2.lt r e).1)
              obtain ⟨r8, ne8⟩ := kp9 _ _ _ _ r8 ne8
              obtain ⟨r11, ne11⟩ := kp9 _ _ _ _ r11 ne11
              have l9 : n9_ = n4_ + 1 := by have h := h9l.out; rw [List.length_append, h4l.out] at h; simp at h; omega
              refine ⟨c0_5, ?_⟩
              simp only [Act.put, List.setIfInBounds_toArray, List.set_cons_zero, List.set_cons_succ]
              refine Held.one 10 (by kernel_rfl) ?_
              refine Held.op_call 10 (some 57) 17 #[.slice (some ⟨w.heap.size, 0, none⟩) 32 32, .slice A9_ n9_ c9_] rfl rfl rfl rfl (enters_of Tryd.func17 (by kernel_rfl) rfl) (by simp [Act.eval])
                (rtag_any _ _ _ _ 32 32 n9_ c9_ key _ _ (kq.below c0_5) c0_5.size (by omega) j9 (Nat.le_refl _) (by omega)) ?_
              rw [HX.out]
              rintro e w6 ⟨rfl, b6⟩
              have c0_6 := c0_5.trans (b6.mono c0_5.size)
              have r8 := r8.below b6 r8.lt
              have r11 := r11.below b6 r11.lt
              have o9 := o9.below b6
              have j9 := (j9.below b6).more b6.size
              refine ⟨_, rfl, c0_6, ?_⟩
              simp only [Act.put, List.setIfInBounds_toArray, List.set_cons_zero, List.set_cons_succ]
              refine Held.one 12 (by kernel_rfl) ?_
              refine Held.op_store_RowL 12 none 25 p11 25 .u8 _ (piece key info (k + 1)) rfl rfl rfl rfl rfl rfl r11 32 info_32 (piece_length _ _ _) (by simp) (piece_wf _ _ _) ?_
              intro w7 rS gS
              have c0_7 := c0_6.grown gS c0_6.size (fun r e => by cases e; exact lo11)
              refine ⟨c0_7, ?_⟩
              simp only [Act.put]
              refine wpAnyH_done (by kernel_rfl) ?_ _
              have rbE := rb.below c0_7 rb.lt
              have rkE := rk.below c0_7 rk.lt
              have bE := bk.trans (c0_7.mono bk.size)
              have iE := rbE.mid (l := q) (m := 32) (by rw [HOL.out]; omega)
              rw [HPC.out] at iE
              have iS := rS.ints (n := 32) (by rw [piece_length]; omega)
              rw [List.take_of_length_le (by rw [piece_length]; omega)] at iS
              go_wp2_with fail
              refine wp_region_held (S := fun W => Below w7.heap.size w7 W) (by kernel_rfl) ?_
              change wpAnyH _ _ _ _ _ _ _ _ w7.drew
              have d0 := (Below.refl w7.heap.size w7).drew
              refine Held.take (v := .slice (some ⟨p11, 0, none⟩) 32 32) 0 (some 65) rfl rfl (by kernel_rfl) (by kernel_rfl) (by kernel_rfl) (fun _ _ _ h => h) rfl (Held.y_slice rfl (fun W => run_slice_arr_all (P := Tryd.prog) 25 5 32 p11 W Tryd.underlying25 (by kernel_rfl) (by omega))) d0 ?_
              simp only [Act.put, List.setIfInBounds_toArray, List.set_cons_zero, List.set_cons_succ]
              refine Held.take (v := .string (strOfNums (piece key info (k + 1)))) 1 (some 66) rfl rfl (by kernel_rfl) (by kernel_rfl) (by kernel_rfl) (fun _ _ _ h => h) rfl (Held.y_text rfl rfl Tryd.underlying22 Tryd.underlying5 Tryd.underlying9 (fun W h => iS.below h)) d0 ?_
              simp only [Act.put, List.setIfInBounds_toArray, List.set_cons_zero, List.set_cons_succ]
              refine Held.take (v := .slice (some ⟨gb, q, none⟩) 32 (L - q)) 2 (some 67) rfl rfl (by kernel_rfl) (by kernel_rfl) (by kernel_rfl) (fun _ _ _ h => h) rfl (Held.y_move rfl rfl) d0 ?_
              simp only [Act.put, List.setIfInBounds_toArray, List.set_cons_zero, List.set_cons_succ]
              refine Held.take (v := .string (strOfNums (piece key info (k + 1)))) 3 (some 68) rfl rfl (by kernel_rfl) (by kernel_rfl) (by kernel_rfl) (fun _ _ _ h => h) rfl (Held.y_text rfl rfl Tryd.underlying22 Tryd.underlying5 Tryd.underlying9 (fun W h => iE.below h)) d0 ?_
              simp only [Act.put, List.setIfInBounds_toArray, List.set_cons_zero, List.set_cons_succ]
              refine Held.take (v := .bool false) 4 (some 69) rfl rfl (by kernel_rfl) (by kernel_rfl) (by kernel_rfl) (fun _ _ _ h => h) rfl (Held.y_nes rfl rfl rfl) d0 ?_
              simp only [Act.put, List.setIfInBounds_toArray, List.set_cons_zero, List.set_cons_succ]
              refine wpAnyH_done (by kernel_rfl) ?_ _
              go_wp2_with fail
              go_roundw
              case rel => exact ⟨k + 1, _, 32, _, by omega, by go_num, rfl, by omega, iE.below d0, rkE.below d0 rkE.lt, rbE.below d0 rbE.lt, bE.trans (d0.mono bE.size)⟩
              case measure => simp [intOf]; omega
          · refine Held.op_alloc_Row 11 (some 11) 25 .u8 32 rfl rfl rfl rfl zero_32 ?_
            intro p11 w3 r11 b3 q11
            have lo11 := Nat.le_trans c0_2.size q11.out
            have ne11 : some p11 ≠ (Value.slice A2_ n2_ c2_).ownBlock := Held.apart_new o2 q11.out
            have c0_3 := c0_2.trans (b3.mono c0_2.size)
            have o2 := o2.below b3
            have j2 := (j2.below b3).more b3.size
            have r8 := r8.below b3 r8.lt
            refine ⟨c0_3, ?_⟩
            simp only [Act.put, List.setIfInBounds_toArray, List.set_cons_zero, List.set_cons_succ]
            refine Held.one 4 (by kernel_rfl) ?_
            refine Held.op_append_keep 4 (some 51) 22 rfl rfl rfl rfl wr.heap.size 5 .u8 1 Tryd.underlying22 info_u8 (.slice A2_ n2_ c2_) _ rfl o2 _ A m c info rfl (ih.below c0_3) (by rw [h2l.out]; omega) (by omega) c0_3.size ?_
            intro A4_ n4_ c4_ w4 o4 g4 h4a h4b h4l j4 kp4
            have c0_4 := c0_3.grown g4 c0_3.size (fun r e => (o2.2.lt r e).1)
            obtain ⟨r8, ne8⟩ := kp4 _ _ _ _ r8 ne8
            obtain ⟨r11, ne11⟩ := kp4 _ _ _ _ r11 ne11
            have l4 : n4_ = n2_ + m := by have h := h4l.out; rw [List.length_append, h2l.out] at h; have := HIN.out; omega
            refine ⟨c0_4, ?_⟩
            simp only [Act.put, List.setIfInBounds_toArray, List.set_cons_zero, List.set_cons_succ]
            refine Held.one 9 (by kernel_rfl) ?_
            refine Held.op_append_keep 9 (some 56) 22 rfl rfl rfl rfl wr.heap.size 5 .u8 1 Tryd.underlying22 info_u8 (.slice A4_ n4_ c4_) _ rfl o4 _ (some ⟨p8, 0, none⟩) 1 1 [(k : Int) + 1] rfl (by have := r8.ints (n := 1) (by simp); simpa using this) (by rw [h4l.out]; omega) (by omega) c0_4.size ?_
            intro A9_ n9_ c9_ w5 o9 g9 h9a h9b h9l j9 kp9
            have c0_5 := c0_4.grown g9 c0_4.size (fun r e => (o4.2.lt r e).1)
            obtain ⟨r8, ne8⟩ := kp9 _ _ _ _ r8 ne8
            obtain ⟨r11, ne11⟩ := kp9 _ _ _ _ r11 ne11
            have l9 : n9_ = n4_ + 1 := by have h := h9l.out; rw [List.length_append, h4l.out] at h; simp at h; omega
            refine ⟨c0_5, ?_⟩
            simp only [Act.put, List.setIfInBounds_toArray, List.set_cons_zero, List.set_cons_succ]
            refine Held.one 10 (by kernel_rfl) ?_
            refine Held.op_call 10 (some 57) 17 #[.slice (some ⟨w.heap.size, 0, none⟩) 32 32, .slice A9_ n9_ c9_] rfl rfl rfl rfl (enters_of Tryd.func17 (by kernel_rfl) rfl) (by simp [Act.eval])
              (rtag_any _ _ _ _ 32 32 n9_ c9_ key _ _ (kq.below c0_5) c0_5.size (by omega) j9 (Nat.le_refl _) (by omega)) ?_
            rw [HX.out]
            rintro e w6 ⟨rfl, b6⟩
            have c0_6 := c0_5.trans (b6.mono c0_5.size)
            have r8 := r8.below b6 r8.lt
            have r11 := r11.below b6 r11.lt
            have o9 := o9.below b6
            have j9 := (j9.below b6).more b6.size
            refine ⟨_, rfl, c0_6, ?_⟩
            simp only [Act.put, List.setIfInBounds_toArray, List.set_cons_zero, List.set_cons_succ]
            refine Held.one 12 (by kernel_rfl) ?_
            refine Held.op_store_RowL 12 none 25 p11 25 .u8 _ (piece key info (k + 1)) rfl rfl rfl rfl rfl rfl r11 32 info_32 (piece_length _ _ _) (by simp) (piece_wf _ _ _) ?_
            intro w7 rS gS
            have c0_7 := c0_6.grown gS c0_6.size (fun r e => by cases e; exact lo11)
            refine ⟨c0_7, ?_⟩
            simp only [Act.put]
            refine wpAnyH_done (by kernel_rfl) ?_ _
            have rbE := rb.below c0_7 rb.lt
            have rkE := rk.below c0_7 rk.lt
            have bE := bk.trans (c0_7.mono bk.size)
            have iE := rbE.mid (l := q) (m := 32) (by rw [HOL.out]; omega)
            rw [HPC.out] at iE
            have iS := rS.ints (n := 32) (by rw [piece_length]; omega)
            rw [List.take_of_length_le (by rw [piece_length]; omega)] at iS
            go_wp2_with fail
            refine wp_region_held (S := fun W => Below w7.heap.size w7 W) (by kernel_rfl) ?_
            change wpAnyH _ _ _ _ _ _ _ _ w7.drew
            have d0 := (Below.refl w7.heap.size w7).drew
            refine Held.take (v := .slice (some ⟨p11, 0, none⟩) 32 32) 0 (some 65) rfl rfl (by kernel_rfl) (by kernel_rfl) (by kernel_rfl) (fun _ _ _ h => h) rfl (Held.y_slice rfl (fun W => run_slice_arr_all (P := Tryd.prog) 25 5 32 p11 W Tryd.underlying25 (by kernel_rfl) (by omega))) d0 ?_
            simp only [Act.put, List.setIfInBounds_toArray, List.set_cons_zero, List.set_cons_succ]
            refine Held.take (v := .string (strOfNums (piece key info (k + 1)))) 1 (some 66) rfl rfl (by kernel_rfl) (by kernel_rfl) (by kernel_rfl) (fun _ _ _ h => h) rfl (Held.y_text rfl rfl Tryd.underlying22 Tryd.underlying5 Tryd.underlying9 (fun W h => iS.below h)) d0 ?_
            simp only [Act.put, List.setIfInBounds_toArray, List.set_cons_zero, List.set_cons_succ]
            refine Held.take (v := .slice (some ⟨gb, q, none⟩) 32 (L - q)) 2 (some 67) rfl rfl (by kernel_rfl) (by kernel_rfl) (by kernel_rfl) (fun _ _ _ h => h) rfl (Held.y_move rfl rfl) d0 ?_
            simp only [Act.put, List.setIfInBounds_toArray, List.set_cons_zero, List.set_cons_succ]
            refine Held.take (v := .string (strOfNums (piece key info (k + 1)))) 3 (some 68) rfl rfl (by kernel_rfl) (by kernel_rfl) (by kernel_rfl) (fun _ _ _ h => h) rfl (Held.y_text rfl rfl Tryd.underlying22 Tryd.underlying5 Tryd.underlying9 (fun W h => iE.below h)) d0 ?_
            simp only [Act.put, List.setIfInBounds_toArray, List.set_cons_zero, List.set_cons_succ]
            refine Held.take (v := .bool false) 4 (some 69) rfl rfl (by kernel_rfl) (by kernel_rfl) (by kernel_rfl) (fun _ _ _ h => h) rfl (Held.y_nes rfl rfl rfl) d0 ?_
            simp only [Act.put, List.setIfInBounds_toArray, List.set_cons_zero, List.set_cons_succ]
            refine wpAnyH_done (by kernel_rfl) ?_ _
            go_wp2_with fail
            go_roundw
            case rel => exact ⟨k + 1, _, 32, _, by omega, by go_num, rfl, by omega, iE.below d0, rkE.below d0 rkE.lt, rbE.below d0 rbE.lt, bE.trans (d0.mono bE.size)⟩
            case measure => simp [intOf]; omega
        · refine Held.op_alloc_Row 11 (some 11) 25 .u8 32 rfl rfl rfl rfl zero_32 ?_
          intro p11 w2 r11 b2 q11
          have lo11 := Nat.le_trans c0_1.size q11.out
          have ne11 : some p11 ≠ (Value.slice A2_ n2_ c2_).ownBlock := Held.apart_new o2 q11.out
          have c0_2 := c0_1.trans (b2.mono c0_1.size)
          have o2 := o2.below b2
          have j2 := (j2.below b2).more b2.size
          refine ⟨c0_2, ?_⟩
          simp only [Act.put, List.setIfInBounds_toArray, List.set_cons_zero, List.set_cons_succ]
          refine Held.two 4 8 (by kernel_rfl) ?_ ?_
          · refine Held.op_append_keep 4 (some 51) 22 rfl rfl rfl rfl wr.heap.size 5 .u8 1 Tryd.underlying22 info_u8 (.slice A2_ n2_ c2_) _ rfl o2 _ A m c info rfl (ih.below c0_2) (by rw [h2l.out]; omega) (by omega) c0_2.size ?_
            intro A4_ n4_ c4_ w3 o4 g4 h4a h4b h4l j4 kp4
            have c0_3 := c0_2.grown g4 c0_2.size (fun r e => (o2.2.lt r e).1)
            obtain ⟨r11, ne11⟩ := kp4 _ _ _ _ r11 ne11
            have l4 : n4_ = n2_ + m := by have h := h4l.out; rw [List.length_append, h2l.out] at h; have := HIN.out; omega
            refine ⟨c0_3, ?_⟩
            simp only [Act.put, List.setIfInBounds_toArray, List.set_cons_zero, List.set_cons_succ]
            refine Held.one 8 (by kernel_rfl) ?_
            refine Held.op_build_Row 8 (some 55) 22 5 1 .u8 1 [(k : Int) + 1] rfl rfl rfl rfl Tryd.underlying22 info_u8 (by simp [Act.eval]) rfl (by omega) (by omega) hw6 ?_
            intro p8 w4 r8 b4 q8
            have lo8 := Nat.le_trans c0_3.size q8.out
            have ne8 : some p8 ≠ (Value.slice A4_ n4_ c4_).ownBlock := Held.apart_new o4 q8.out
            have c0_4 := c0_3.trans (b4.mono c0_3.size)
            have o4 := o4.below b4
            have j4 := (j4.below b4).more b4.size
            have r11 := r11.below b4 r11.lt
            refine ⟨c0_4, ?_⟩
            simp only [Act.put, List.setIfInBounds_toArray, List.set_cons_zero, List.set_cons_succ]
            refine Held.one 9 (by kernel_rfl) ?_
            refine Held.op_append_keep 9 (some 56) 22 rfl rfl rfl rfl wr.heap.size 5 .u8 1 Tryd.underlying22 info_u8 (.slice A4_ n4_ c4_) _ rfl o4 _ (some ⟨p8, 0, none⟩) 1 1 [(k : Int) + 1] rfl (by have := r8.ints (n := 1) (by simp); simpa using this) (by rw [h4l.out]; omega) (by omega) c0_4.size ?_
            intro A9_ n9_ c9_ w5 o9 g9 h9a h9b h9l j9 kp9
            have c0_5 := c0_4.grown g9 c0_4.size (fun r e => (o4.2.lt r e).1)
            obtain ⟨r11, ne11⟩ := kp9 _ _ _ _ r11 ne11
            obtain ⟨r8, ne8⟩ := kp9 _ _ _ _ r8 ne8
            have l9 : n9_ = n4_ + 1 := by have h := h9l.out; rw [List.length_append, h4l.out] at h; simp at h; omega
            refine ⟨c0_5, ?_⟩
            simp only [Act.put, List.setIfInBounds_toArray, List.set_cons_zero, List.set_cons_succ]
            refine Held.one 10 (by kernel_rfl) ?_
            refine Held.op_call 10 (some 57) 17 #[.slice (some ⟨w.heap.size, 0, none⟩) 32 32, .slice A9_ n9_ c9_] rfl rfl rfl rfl (enters_of Tryd.func17 (by kernel_rfl) rfl) (by simp [Act.eval])
              (rtag_any _ _ _ _ 32 32 n9_ c9_ key _ _ (kq.below c0_5) c0_5.size (by omega) j9 (Nat.le_refl _) (by omega)) ?_
            rw [HX.out]
            rintro e w6 ⟨rfl, b6⟩
            have c0_6 := c0_5.trans (b6.mono c0_5.size)
            have r11 := r11.below b6 r11.lt
            have r8 := r8.below b6 r8.lt
            have o9 := o9.below b6
            have j9 := (j9.below b6).more b6.size
            refine ⟨_, rfl, c0_6, ?_⟩
            simp only [Act.put, List.setIfInBounds_toArray, List.set_cons_zero, List.set_cons_succ]
            refine Held.one 12 (by kernel_rfl) ?_
            refine Held.op_store_RowL 12 none 25 p11 25 .u8 _ (piece key info (k + 1)) rfl rfl rfl rfl rfl rfl r11 32 info_32 (piece_length _ _ _) (by simp) (piece_wf _ _ _) ?_
            intro w7 rS gS
            have c0_7 := c0_6.grown gS c0_6.size (fun r e => by cases e; exact lo11)
            refine ⟨c0_7, ?_⟩
            simp only [Act.put]
            refine wpAnyH_done (by kernel_rfl) ?_ _
            have rbE := rb.below c0_7 rb.lt
            have rkE := rk.below c0_7 rk.lt
            have bE := bk.trans (c0_7.mono bk.size)
            have iE := rbE.mid (l := q) (m := 32) (by rw [HOL.out]; omega)
            rw [HPC.out] at iE
            have iS := rS.ints (n := 32) (by rw [piece_length]; omega)
            rw [List.take_of_length_le (by rw [piece_length]; omega)] at iS
            go_wp2_with fail
            refine wp_region_held (S := fun W => Below w7.heap.size w7 W) (by kernel_rfl) ?_
            change wpAnyH _ _ _ _ _ _ _ _ w7.drew
            have d0 := (Below.refl w7.heap.size w7).drew
            refine Held.take (v := .slice (some ⟨p11, 0, none⟩) 32 32) 0 (some 65) rfl rfl (by kernel_rfl) (by kernel_rfl) (by kernel_rfl) (fun _ _ _ h => h) rfl (Held.y_slice rfl (fun W => run_slice_arr_all (P := Tryd.prog) 25 5 32 p11 W Tryd.underlying25 (by kernel_rfl) (by omega))) d0 ?_
            simp only [Act.put, List.setIfInBounds_toArray, List.set_cons_zero, List.set_cons_succ]
            refine Held.take (v := .string (strOfNums (piece key info (k + 1)))) 1 (some 66) rfl rfl (by kernel_rfl) (by kernel_rfl) (by kernel_rfl) (fun _ _ _ h => h) rfl (Held.y_text rfl rfl Tryd.underlying22 Tryd.underlying5 Tryd.underlying9 (fun W h => iS.below h)) d0 ?_
            simp only [Act.put, List.setIfInBounds_toArray, List.set_cons_zero, List.set_cons_succ]
            refine Held.take (v := .slice (some ⟨gb, q, none⟩) 32 (L - q)) 2 (some 67) rfl rfl (by kernel_rfl) (by kernel_rfl) (by kernel_rfl) (fun _ _ _ h => h) rfl (Held.y_move rfl rfl) d0 ?_
            simp only [Act.put, List.setIfInBounds_toArray, List.set_cons_zero, List.set_cons_succ]
            refine Held.take (v := .string (strOfNums (piece key info (k + 1)))) 3 (some 68) rfl rfl (by kernel_rfl) (by kernel_rfl) (by kernel_rfl) (fun _ _ _ h => h) rfl (Held.y_text rfl rfl Tryd.underlying22 Tryd.underlying5 Tryd.underlying9 (fun W h => iE.below h)) d0 ?_
            simp only [Act.put, List.setIfInBounds_toArray, List.set_cons_zero, List.set_cons_succ]
            refine Held.take (v := .bool false) 4 (some 69) rfl rfl (by kernel_rfl) (by kernel_rfl) (by kernel_rfl) (fun _ _ _ h => h) rfl (Held.y_nes rfl rfl rfl) d0 ?_
            simp only [Act.put, List.setIfInBounds_toArray, List.set_cons_zero, List.set_cons_succ]
            refine wpAnyH_done (by kernel_rfl) ?_ _
            go_wp2_with fail
            go_roundw
            case rel => exact ⟨k + 1, _, 32, _, by omega, by go_num, rfl, by omega, iE.below d0, rkE.below d0 rkE.lt, rbE.below d0 rbE.lt, bE.trans (d0.mono bE.size)⟩
            case measure => simp [intOf]; omega
          · refine Held.op_build_Row 8 (some 55) 22 5 1 .u8 1 [(k : Int) + 1] rfl rfl rfl rfl Tryd.underlying22 info_u8 (by simp [Act.eval]) rfl (by omega) (by omega) hw6 ?_
            intro p8 w3 r8 b3 q8
            have lo8 := Nat.le_trans c0_2.size q8.out
            have ne8 : some p8 ≠ (Value.slice A2_ n2_ c2_).ownBlock := Held.apart_new o2 q8.out
            have c0_3 := c0_2.trans (b3.mono c0_2.size)
            have o2 := o2.below b3
            have j2 := (j2.below b3).more b3.size
            have r11 := r11.below b3 r11.lt
            refine ⟨c0_3, ?_⟩
            simp only [Act.put, List.setIfInBounds_toArray, List.set_cons_zero, List.set_cons_succ]
            refine Held.one 4 (by kernel_rfl) ?_
            refine Held.op_append_keep 4 (some 51) 22 rfl rfl rfl rfl wr.heap.size 5 .u8 1 Tryd.underlying22 info_u8 (.slice A2_ n2_ c2_) _ rfl o2 _ A m c info rfl (ih.below c0_3) (by rw [h2l.out]; omega) (by omega) c0_3.size ?_
            intro A4_ n4_ c4_ w4 o4 g4 h4a h4b h4l j4 kp4
            have c0_4 := c0_3.grown g4 c0_3.size (fun r e => (o2.2.lt r e).1)
            obtain ⟨r11, ne11⟩ := kp4 _ _ _ _ r11 ne11
            obtain ⟨r8, ne8⟩ := kp4 _ _ _ _ r8 ne8
            have l4 : n4_ = n2_ + m := by have h := h4l.out; rw [List.length_append, h2l.out] at h; have := HIN.out; omega
            refine ⟨c0_4, ?_⟩
            simp only [Act.put, List.setIfInBounds_toArray, List.set_cons_zero, List.set_cons_succ]
            refine Held.one 9 (by kernel_rfl) ?_
            refine Held.op_append_keep 9 (some 56) 22 rfl rfl rfl rfl wr.heap.size 5 .u8 1 Tryd.underlying22 info_u8 (.slice A4_ n4_ c4_) _ rfl o4 _ (some ⟨p8, 0, none⟩) 1 1 [(k : Int) + 1] rfl (by have := r8.ints (n := 1) (by simp); simpa using this) (by rw [h4l.out]; omega) (by omega) c0_4.size ?_
            intro A9_ n9_ c9_ w5 o9 g9 h9a h9b h9l j9 kp9
            have c0_5 := c0_4.grown g9 c0_4.size (fun r e => (o4.2.lt r e).1)
            obtain ⟨r11, ne11⟩ := kp9 _ _ _ _ r11 ne11
            obtain ⟨r8, ne8⟩ := kp9 _ _ _ _ r8 ne8
            have l9 : n9_ = n4_ + 1 := by have h := h9l.out; rw [List.length_append, h4l.out] at h; simp at h; omega
            refine ⟨c0_5, ?_⟩
            simp only [Act.put, List.setIfInBounds_toArray, List.set_cons_zero, List.set_cons_succ]
            refine Held.one 10 (by kernel_rfl) ?_
            refine Held.op_call 10 (some 57) 17 #[.slice (some ⟨w.heap.size, 0, none⟩) 32 32, .slice A9_ n9_ c9_] rfl rfl rfl rfl (enters_of Tryd.func17 (by kernel_rfl) rfl) (by simp [Act.eval])
              (rtag_any _ _ _ _ 32 32 n9_ c9_ key _ _ (kq.below c0_5) c0_5.size (by omega) j9 (Nat.le_refl _) (by omega)) ?_
            rw [HX.out]
            rintro e w6 ⟨rfl, b6⟩
            have c0_6 := c0_5.trans (b6.mono c0_5.size)
            have r11 := r11.below b6 r11.lt
            have r8 := r8.below b6 r8.lt
            have o9 := o9.below b6
            have j9 := (j9.below b6).more b6.size
            refine ⟨_, rfl, c0_6, ?_⟩
            simp only [Act.put, List.setIfInBounds_toArray, List.set_cons_zero, List.set_cons_succ]
            refine Held.one 12 (by kernel_rfl) ?_
            refine Held.op_store_RowL 12 none 25 p11 25 .u8 _ (piece key info (k + 1)) rfl rfl rfl rfl rfl rfl r11 32 info_32 (piece_length _ _ _) (by simp) (piece_wf _ _ _) ?_
            intro w7 rS gS
            have c0_7 := c0_6.grown gS c0_6.size (fun r e => by cases e; exact lo11)
            refine ⟨c0_7, ?_⟩
            simp only [Act.put]
            refine wpAnyH_done (by kernel_rfl) ?_ _
            have rbE := rb.below c0_7 rb.lt
            have rkE := rk.below c0_7 rk.lt
            have bE := bk.trans (c0_7.mono bk.size)
            have iE := rbE.mid (l := q) (m := 32) (by rw [HOL.out]; omega)
            rw [HPC.out] at iE
            have iS := rS.ints (n := 32) (by rw [piece_length]; omega)
            rw [List.take_of_length_le (by rw [piece_length]; omega)] at iS
            go_wp2_with fail
            refine wp_region_held (S := fun W => Below w7.heap.size w7 W) (by kernel_rfl) ?_
            change wpAnyH _ _ _ _ _ _ _ _ w7.drew
            have d0 := (Below.refl w7.heap.size w7).drew
            refine Held.take (v := .slice (some ⟨p11, 0, none⟩) 32 32) 0 (some 65) rfl rfl (by kernel_rfl) (by kernel_rfl) (by kernel_rfl) (fun _ _ _ h => h) rfl (Held.y_slice rfl (fun W => run_slice_arr_all (P := Tryd.prog) 25 5 32 p11 W Tryd.underlying25 (by kernel_rfl) (by omega))) d0 ?_
            simp only [Act.put, List.setIfInBounds_toArray, List.set_cons_zero, List.set_cons_succ]
            refine Held.take (v := .string (strOfNums (piece key info (k + 1)))) 1 (some 66) rfl rfl (by kernel_rfl) (by kernel_rfl) (by kernel_rfl) (fun _ _ _ h => h) rfl (Held.y_text rfl rfl Tryd.underlying22 Tryd.underlying5 Tryd.underlying9 (fun W h => iS.below h)) d0 ?_
            simp only [Act.put, List.setIfInBounds_toArray, List.set_cons_zero, List.set_cons_succ]
            refine Held.take (v := .slice (some ⟨gb, q, none⟩) 32 (L - q)) 2 (some 67) rfl rfl (by kernel_rfl) (by kernel_rfl) (by kernel_rfl) (fun _ _ _ h => h) rfl (Held.y_move rfl rfl) d0 ?_
            simp only [Act.put, List.setIfInBounds_toArray, List.set_cons_zero, List.set_cons_succ]
            refine Held.take (v := .string (strOfNums (piece key info (k + 1)))) 3 (some 68) rfl rfl (by kernel_rfl) (by kernel_rfl) (by kernel_rfl) (fun _ _ _ h => h) rfl (Held.y_text rfl rfl Tryd.underlying22 Tryd.underlying5 Tryd.underlying9 (fun W h => iE.below h)) d0 ?_
            simp only [Act.put, List.setIfInBounds_toArray, List.set_cons_zero, List.set_cons_succ]
            refine Held.take (v := .bool false) 4 (some 69) rfl rfl (by kernel_rfl) (by kernel_rfl) (by kernel_rfl) (fun _ _ _ h => h) rfl (Held.y_nes rfl rfl rfl) d0 ?_
            simp only [Act.put, List.setIfInBounds_toArray, List.set_cons_zero, List.set_cons_succ]
            refine wpAnyH_done (by kernel_rfl) ?_ _
            go_wp2_with fail
            go_roundw
            case rel => exact ⟨k + 1, _, 32, _, by omega, by go_num, rfl, by omega, iE.below d0, rkE.below d0 rkE.lt, rbE.below d0 rbE.lt, bE.trans (d0.mono bE.size)⟩
            case measure => simp [intOf]; omega
      · refine Held.op_build_Row 8 (some 55) 22 5 1 .u8 1 [(k : Int) + 1] rfl rfl rfl rfl Tryd.underlying22 info_u8 (by simp [Act.eval]) rfl (by omega) (by omega) hw6 ?_
        intro p8 w1 r8 b1 q8
        have lo8 := Nat.le_trans c0_0.size q8.out
        have ne8 : some p8 ≠ (Value.slice none 0 0).ownBlock := by simp [Value.ownBlock]
        have c0_1 := c0_0.trans (b1.mono c0_0.size)
        refine ⟨c0_1, ?_⟩
        simp only [Act.put, List.setIfInBounds_toArray, List.set_cons_zero, List.set_cons_succ]
        refine Held.two 2 11 (by kernel_rfl) ?_ ?_
        · refine Held.op_append_keep 2 (some 49) 22 rfl rfl rfl rfl wr.heap.size 5 .u8 1 Tryd.underlying22 info_u8 (.slice none 0 0) [] rfl (Mem.Own.nil _ _ _ _) _ A4 n4 c4 (piece key info k) rfl (i4.below c0_1) (by simp; omega) (by omega) c0_1.size ?_
          intro A2_ n2_ c2_ w2 o2 g2 h2a h2b h2l j2 kp2
          have c0_2 := c0_1.grown g2 c0_1.size (fun r e => by cases e)
          obtain ⟨r8, ne8⟩ := kp2 _ _ _ _ r8 ne8
          have l2 : n2_ = n4 := by have h := h2l.out; rw [List.length_append, List.length_nil] at h; have := HI4.out; omega
          refine ⟨c0_2, ?_⟩
          simp only [Act.put, List.setIfInBounds_toArray, List.set_cons_zero, List.set_cons_succ]
          refine Held.two 4 11 (by kernel_rfl) ?_ ?_
          · refine Held.op_append_keep 4 (some 51) 22 rfl rfl rfl rfl wr.heap.size 5 .u8 1 Tryd.underlying22 info_u8 (.slice A2_ n2_ c2_) _ rfl o2 _ A m c info rfl (ih.below c0_2) (by rw [h2l.out]; omega) (by omega) c0_2.size ?_
            intro A4_ n4_ c4_ w3 o4 g4 h4a h4b h4l j4 kp4
            have c0_3 := c0_2.grown g4 c0_2.size (fun r e => (o2.2.lt r e).1)
            obtain ⟨r8, ne8⟩ := kp4 _ _ _ _ r8 ne8
            have l4 : n4_ = n2_ + m := by have h := h4l.out; rw [List.length_append, h2l.out] at h; have := HIN.out; omega
            refine ⟨c0_3, ?_⟩
            simp only [Act.put, List.setIfInBounds_toArray, List.set_cons_zero, List.set_cons_succ]
            refine Held.two 9 11 (by kernel_rfl) ?_ ?_
            · refine Held.op_append_keep 9 (some 56) 22 rfl rfl rfl rfl wr.heap.size 5 .u8 1 Tryd.underlying22 info_u8 (.slice A4_ n4_ c4_) _ rfl o4 _ (some ⟨p8, 0, none⟩) 1 1 [(k : Int) + 1] rfl (by have := r8.ints (n := 1) (by simp); simpa using this) (by rw [h4l.out]; omega) (by omega) c0_3.size ?_
              intro A9_ n9_ c9_ w4 o9 g9 h9a h9b h9l j9 kp9
              have c0_4 := c0_3.grown g9 c0_3.size (fun r e => (o4.2.lt r e).1)
              obtain ⟨r8, ne8⟩ := kp9 _ _ _ _ r8 ne8
              have l9 : n9_ = n4_ + 1 := by have h := h9l.out; rw [List.length_append, h4l.out] at h; simp at h; omega
              refine ⟨c0_4, ?_⟩
              simp only [Act.put, List.setIfInBounds_toArray, List.set_cons_zero, List.set_cons_succ]
              refine Held.two 10 11 (by kernel_rfl) ?_ ?_
              · refine Held.op_call 10 (some 57) 17 #[.slice (some ⟨w.heap.size, 0, none⟩) 32 32, .slice A9_ n9_ c9_] rfl rfl rfl rfl (enters_of Tryd.func17 (by kernel_rfl) rfl) (by simp [Act.eval])
                  (rtag_any _ _ _ _ 32 32 n9_ c9_ key _ _ (kq.below c0_4) c0_4.size (by omega) j9 (Nat.le_refl _) (by omega)) ?_
                rw [HX.out]
                rintro e w5 ⟨rfl, b5⟩
                have c0_5 := c0_4.trans (b5.mono c0_4.size)
                have r8 := r8.below b5 r8.lt
                have o9 := o9.below b5
                have j9 := (j9.below b5).more b5.size
                refine ⟨_, rfl, c0_5, ?_⟩
                simp only [Act.put, List.setIfInBounds_toArray, List.set_cons_zero, List.set_cons_succ]
                refine Held.one 11 (by kernel_rfl) ?_
                refine Held.op_alloc_Row 11 (some 11) 25 .u8 32 rfl rfl rfl rfl zero_32 ?_
                intro p11 w6 r11 b6 q11
                have lo11 := Nat.le_trans c0_5.size q11.out
                have ne11 : some p11 ≠ (Value.slice A9_ n9_ c9_).ownBlock := Held.apart_new o9 q11.out
                have c0_6 := c0_5.trans (b6.mono c0_5.size)
                have o9 := o9.below b6
                have j9 := (j9.below b6).more b6.size
                have r8 := r8.below b6 r8.lt
                refine ⟨c0_6, ?_⟩
                simp only [Act.put, List.setIfInBounds_toArray, List.set_cons_zero, List.set_cons_succ]
                refine Held.one 12 (by kernel_rfl) ?_
                refine Held.op_store_RowL 12 none 25 p11 25 .u8 _ (piece key info (k + 1)) rfl rfl rfl rfl rfl rfl r11 32 info_32 (piece_length _ _ _) (by simp) (piece_wf _ _ _) ?_
                intro w7 rS gS
                have c0_7 := c0_6.grown gS c0_6.size (fun r e => by cases e; exact lo11)
                refine ⟨c0_7, ?_⟩
                simp only [Act.put]
                refine wpAnyH_done (by kernel_rfl) ?_ _
                have rbE := rb.below c0_7 rb.lt
                have rkE := rk.below c0_7 rk.lt
                have bE := bk.trans (c0_7.mono bk.size)
                have iE := rbE.mid (l := q) (m := 32) (by rw [HOL.out]; omega)
                rw [HPC.out] at iE
                have iS := rS.ints (n := 32) (by rw [piece_length]; omega)
                rw [List.take_of_length_le (by rw [piece_length]; omega)] at iS
                go_wp2_with fail
                refine wp_region_held (S := fun W => Below w7.heap.size w7 W) (by kernel_rfl) ?_
                change wpAnyH _ _ _ _ _ _ _ _ w7.drew
                have d0 := (Below.refl w7.heap.size w7).drew
                refine Held.take (v := .slice (some ⟨p11, 0, none⟩) 32 32) 0 (some 65) rfl rfl (by kernel_rfl) (by kernel_rfl) (by kernel_rfl) (fun _ _ _ h => h) rfl (Held.y_slice rfl (fun W => run_slice_arr_all (P := Tryd.prog) 25 5 32 p11 W Tryd.underlying25 (by kernel_rfl) (by omega))) d0 ?_
                simp only [Act.put, List.setIfInBounds_toArray, List.set_cons_zero, List.set_cons_succ]
                refine Held.take (v := .string (strOfNums (piece key info (k + 1)))) 1 (some 66) rfl rfl (by kernel_rfl) (by kernel_rfl) (by kernel_rfl) (fun _ _ _ h => h) rfl (Held.y_text rfl rfl Tryd.underlying22 Tryd.underlying5 Tryd.underlying9 (fun W h => iS.below h)) d0 ?_
                simp only [Act.put, List.setIfInBounds_toArray, List.set_cons_zero, List.set_cons_succ]
                refine Held.take (v := .slice (some ⟨gb, q, none⟩) 32 (L - q)) 2 (some 67) rfl rfl (by kernel_rfl) (by kernel_rfl) (by kernel_rfl) (fun _ _ _ h => h) rfl (Held.y_move rfl rfl) d0 ?_
                simp only [Act.put, List.setIfInBounds_toArray, List.set_cons_zero, List.set_cons_succ]
                refine Held.take (v := .string (strOfNums (piece key info (k + 1)))) 3 (some 68) rfl rfl (by kernel_rfl) (by kernel_rfl) (by kernel_rfl) (fun _ _ _ h => h) rfl (Held.y_text rfl rfl Tryd.underlying22 Tryd.underlying5 Tryd.underlying9 (fun W h => iE.below h)) d0 ?_
                simp only [Act.put, List.setIfInBounds_toArray, List.set_cons_zero, List.set_cons_succ]
                refine Held.take (v := .bool false) 4 (some 69) rfl rfl (by kernel_rfl) (by kernel_rfl) (by kernel_rfl) (fun _ _ _ h => h) rfl (Held.y_nes rfl rfl rfl) d0 ?_
                simp only [Act.put, List.setIfInBounds_toArray, List.set_cons_zero, List.set_cons_succ]
                refine wpAnyH_done (by kernel_rfl) ?_ _
                go_wp2_with fail
                go_roundw
                case rel => exact ⟨k + 1, _, 32, _, by omega, by go_num, rfl, by omega, iE.below d0, rkE.below d0 rkE.lt, rbE.below d0 rbE.lt, bE.trans (d0.mono bE.size)⟩
                case measure => simp [intOf]; omega
              · refine Held.op_alloc_Row 11 (some 11) 25 .u8 32 rfl rfl rfl rfl zero_32 ?_
                intro p11 w5 r11 b5 q11
                have lo11 := Nat.le_trans c0_4.size q11.out
                have ne11 : some p11 ≠ (Value.slice A9_ n9_ c9_).ownBlock := Held.apart_new o9 q11.out
                have c0_5 := c0_4.trans (b5.mono c0_4.size)
                have o9 := o9.below b5
                have j9 := (j9.below b5).more b5.size
                have r8 := r8.below b5 r8.lt
                refine ⟨c0_5, ?_⟩
                simp only [Act.put, List.setIfInBounds_toArray, List.set_cons_zero, List.set_cons_succ]
                refine Held.one 10 (by kernel_rfl) ?_
                refine Held.op_call 10 (some 57) 17 #[.slice (some ⟨w.heap.size, 0, none⟩) 32 32, .slice A9_ n9_ c9_] rfl rfl rfl rfl (enters_of Tryd.func17 (by kernel_rfl) rfl) (by simp [Act.eval])
                  (rtag_any _ _ _ _ 32 32 n9_ c9_ key _ _ (kq.below c0_5) c0_5.size (by omega) j9 (Nat.le_refl _) (by omega)) ?_
                rw [HX.out]
                rintro e w6 ⟨rfl, b6⟩
                have c0_6 := c0_5.trans (b6.mono c0_5.size)
                have r8 := r8.below b6 r8.lt
                have r11 := r11.below b6 r11.lt
                have o9 := o9.below b6
                have j9 := (j9.below b6).more b6.size
                refine ⟨_, rfl, c0_6, ?_⟩
                simp only [Act.put, List.setIfInBounds_toArray, List.set_cons_zero, List.set_cons_succ]
                refine Held.one 12 (by kernel_rfl) ?_
                refine Held.op_store_RowL 12 none 25 p11 25 .u8 _ (piece key info (k + 1)) rfl rfl rfl rfl rfl rfl r11 32 info_32 (piece_length _ _ _) (by simp) (piece_wf _ _ _) ?_
                intro w7 rS gS
                have c0_7 := c0_6.grown gS c0_6.size (fun r e => by cases e; exact lo11)
                refine ⟨c0_7, ?_⟩
                simp only [Act.put]
                refine wpAnyH_done (by kernel_rfl) ?_ _
                have rbE := rb.below c0_7 rb.lt
                have rkE := rk.below c0_7 rk.lt
                have bE := bk.trans (c0_7.mono bk.size)
                have iE := rbE.mid (l := q) (m := 32) (by rw [HOL.out]; omega)
                rw [HPC.out] at iE
                have iS := rS.ints (n := 32) (by rw [piece_length]; omega)
                rw [List.take_of_length_le (by rw [piece_length]; omega)] at iS
                go_wp2_with fail
                refine wp_region_held (S := fun W => Below w7.heap.size w7 W) (by kernel_rfl) ?_
                change wpAnyH _ _ _ _ _ _ _ _ w7.drew
                have d0 := (Below.refl w7.heap.size w7).drew
                refine Held.take (v := .slice (some ⟨p11, 0, none⟩) 32 32) 0 (some 65) rfl rfl (by kernel_rfl) (by kernel_rfl) (by kernel_rfl) (fun _ _ _ h => h) rfl (Held.y_slice rfl (fun W => run_slice_arr_all (P := Tryd.prog) 25 5 32 p11 W Tryd.underlying25 (by kernel_rfl) (by omega))) d0 ?_
                simp only [Act.put, List.setIfInBounds_toArray, List.set_cons_zero, List.set_cons_succ]
                refine Held.take (v := .string (strOfNums (piece key info (k + 1)))) 1 (some 66) rfl rfl (by kernel_rfl) (by kernel_rfl) (by kernel_rfl) (fun _ _ _ h => h) rfl (Held.y_text rfl rfl Tryd.underlying22 Tryd.underlying5 Tryd.underlying9 (fun W h => iS.below h)) d0 ?_
                simp only [Act.put, List.setIfInBounds_toArray, List.set_cons_zero, List.set_cons_succ]
                refine Held.take (v := .slice (some ⟨gb, q, none⟩) 32 (L - q)) 2 (some 67) rfl rfl (by kernel_rfl) (by kernel_rfl) (by kernel_rfl) (fun _ _ _ h => h) rfl (Held.y_move rfl rfl) d0 ?_
                simp only [Act.put, List.setIfInBounds_toArray, List.set_cons_zero, List.set_cons_succ]
                refine Held.take (v := .string (strOfNums (piece key info (k + 1)))) 3 (some 68) rfl rfl (by kernel_rfl) (by kernel_rfl) (by kernel_rfl) (fun _ _ _ h => h) rfl (Held.y_text rfl rfl Tryd.underlying22 Tryd.underlying5 Tryd.underlying9 (fun W h => iE.below h)) d0 ?_
                simp only [Act.put, List.setIfInBounds_toArray, List.set_cons_zero, List.set_cons_succ]
                refine Held.take (v := .bool false) 4 (some 69) rfl rfl (by kernel_rfl) (by kernel_rfl) (by kernel_rfl) (fun _ _ _ h => h) rfl (Held.y_nes rfl rfl rfl) d0 ?_
                simp only [Act.put, List.setIfInBounds_toArray, List.set_cons_zero, List.set_cons_succ]
                refine wpAnyH_done (by kernel_rfl) ?_ _
                go_wp2_with fail
                go_roundw
                case rel => exact ⟨k + 1, _, 32, _, by omega, by go_num, rfl, by omega, iE.below d0, rkE.below d0 rkE.lt, rbE.below d0 rbE.lt, bE.trans (d0.mono bE.size)⟩
                case measure => simp [intOf]; omega
            · refine Held.op_alloc_Row 11 (some 11) 25 .u8 32 rfl rfl rfl rfl zero_32 ?_
              intro p11 w4 r11 b4 q11
              have lo11 := Nat.le_trans c0_3.size q11.out
              have ne11 : some p11 ≠ (Value.slice A4_ n4_ c4_).ownBlock := Held.apart_new o4 q11.out
              have c0_4 := c0_3.trans (b4.mono c0_3.size)
              have o4 := o4.below b4
              have j4 := (j4.below b4).more b4.size
              have r8 := r8.below b4 r8.lt
              refine ⟨c0_4, ?_⟩
              simp only [Act.put, List.setIfInBounds_toArray, List.set_cons_zero, List.set_cons_succ]
              refine Held.one 9 (by kernel_rfl) ?_
              refine Held.op_append_keep 9 (some 56) 22 rfl rfl rfl rfl wr.heap.size 5 .u8 1 Tryd.underlying22 info_u8 (.slice A4_ n4_ c4_) _ rfl o4 _ (some ⟨p8, 0, none⟩) 1 1 [(k : Int) + 1] rfl (by have := r8.ints (n := 1) (by simp); simpa using this) (by rw [h4l.out]; omega) (by omega) c0_4.size ?_
              intro A9_ n9_ c9_ w5 o9 g9 h9a h9b h9l j9 kp9
              have c0_5 := c0_4.grown g9 c0_4.size (fun r e => (o4.2.lt r e).1)
              obtain ⟨r8, ne8⟩ := kp9 _ _ _ _ r8 ne8
              obtain ⟨r11, ne11⟩ := kp9 _ _ _ _ r11 ne11
              have l9 : n9_ = n4_ + 1 := by have h := h9l.out; rw [List.length_append, h4l.out] at h; simp at h; omega
              refine ⟨c0_5, ?_⟩
              simp only [Act.put, List.setIfInBounds_toArray, List.set_cons_zero, List.set_cons_succ]
              refine Held.one 10 (by kernel_rfl) ?_
              refine Held.op_call 10 (some 57) 17 #[.slice (some ⟨w.heap.size, 0, none⟩) 32 32, .slice A9_ n9_ c9_] rfl rfl rfl rfl (enters_of Tryd.func17 (by kernel_rfl) rfl) (by simp [Act.eval])
                (rtag_any _ _ _ _ 32 32 n9_ c9_ key _ _ (kq.below c0_5) c0_5.size (by omega) j9 (Nat.le_refl _) (by omega)) ?_
              rw [HX.out]
              rintro e w6 ⟨rfl, b6⟩
              have c0_6 := c0_5.trans (b6.mono c0_5.size)
              have r8 := r8.below b6 r8.lt
              have r11 := r11.below b6 r11.lt
              have o9 := o9.below b6
              have j9 := (j9.below b6).more b6.size
              refine ⟨_, rfl, c0_6, ?_⟩
              simp only [Act.put, List.setIfInBounds_toArray, List.set_cons_zero, List.set_cons_succ]
              refine Held.one 12 (by kernel_rfl) ?_
              refine Held.op_store_RowL 12 none 25 p11 25 .u8 _ (piece key info (k + 1)) rfl rfl rfl rfl rfl rfl r11 32 info_32 (piece_length _ _ _) (by simp) (piece_wf _ _ _) ?_
              intro w7 rS gS
              have c0_7 := c0_6.grown gS c0_6.size (fun r e => by cases e; exact lo11)
              refine ⟨c0_7, ?_⟩
              simp only [Act.put]
              refine wpAnyH_done (by kernel_rfl) ?_ _
              have rbE := rb.below c0_7 rb.lt
              have rkE := rk.below c0_7 rk.lt
              have bE := bk.trans (c0_7.mono bk.size)
              have iE := rbE.mid (l := q) (m := 32) (by rw [HOL.out]; omega)
              rw [HPC.out] at iE
              have iS := rS.ints (n := 32) (by rw [piece_length]; omega)
              rw [List.take_of_length_le (by rw [piece_length]; omega)] at iS
              go_wp2_with fail
              refine wp_region_held (S := fun W => Below w7.heap.size w7 W) (by kernel_rfl) ?_
              change wpAnyH _ _ _ _ _ _ _ _ w7.drew
              have d0 := (Below.refl w7.heap.size w7).drew
              refine Held.take (v := .slice (some ⟨p11, 0, none⟩) 32 32) 0 (some 65) rfl rfl (by kernel_rfl) (by kernel_rfl) (by kernel_rfl) (fun _ _ _ h => h) rfl (Held.y_slice rfl (fun W => run_slice_arr_all (P := Tryd.prog) 25 5 32 p11 W Tryd.underlying25 (by kernel_rfl) (by omega))) d0 ?_
              simp only [Act.put, List.setIfInBounds_toArray, List.set_cons_zero, List.set_cons_succ]
              refine Held.take (v := .string (strOfNums (piece key info (k + 1)))) 1 (some 66) rfl rfl (by kernel_rfl) (by kernel_rfl) (by kernel_rfl) (fun _ _ _ h => h) rfl (Held.y_text rfl rfl Tryd.underlying22 Tryd.underlying5 Tryd.underlying9 (fun W h => iS.below h)) d0 ?_
              simp only [Act.put, List.setIfInBounds_toArray, List.set_cons_zero, List.set_cons_succ]
              refine Held.take (v := .slice (some ⟨gb, q, none⟩) 32 (L - q)) 2 (some 67) rfl rfl (by kernel_rfl) (by kernel_rfl) (by kernel_rfl) (fun _ _ _ h => h) rfl (Held.y_move rfl rfl) d0 ?_
              simp only [Act.put, List.setIfInBounds_toArray, List.set_cons_zero, List.set_cons_succ]
              refine Held.take (v := .string (strOfNums (piece key info (k + 1)))) 3 (some 68) rfl rfl (by kernel_rfl) (by kernel_rfl) (by kernel_rfl) (fun _ _ _ h => h) rfl (Held.y_text rfl rfl Tryd.underlying22 Tryd.underlying5 Tryd.underlying9 (fun W h => iE.below h)) d0 ?_
              simp only [Act.put, List.setIfInBounds_toArray, List.set_cons_zero, List.set_cons_succ]
              refine Held.take (v := .bool false) 4 (some 69) rfl rfl (by kernel_rfl) (by kernel_rfl) (by kernel_rfl) (fun _ _ _ h => h) rfl (Held.y_nes rfl rfl rfl) d0 ?_
              simp only [Act.put, List.setIfInBounds_toArray, List.set_cons_zero, List.set_cons_succ]
              refine wpAnyH_done (by kernel_rfl) ?_ _
              go_wp2_with fail
              go_roundw
              case rel => exact ⟨k + 1, _, 32, _, by omega, by go_num, rfl, by omega, iE.below d0, rkE.below d0 rkE.lt, rbE.below d0 rbE.lt, bE.trans (d0.mono bE.size)⟩
              case measure => simp [intOf]; omega
          · refine Held.op_alloc_Row 11 (some 11) 25 .u8 32 rfl rfl rfl rfl zero_32 ?_
            intro p11 w3 r11 b3 q11
            have lo11 := Nat.le_trans c0_2.size q11.out
            have ne11 : some p11 ≠ (Value.slice A2_ n2_ c2_).ownBlock := Held.apart_new o2 q11.out
            have c0_3 := c0_2.trans (b3.mono c0_2.size)
            have o2 := o2.below b3
            have j2 := (j2.below b3).more b3.size
            have r8 := r8.below b3 r8.lt
            refine ⟨c0_3, ?_⟩
            simp only [Act.put, List.setIfInBounds_toArray, List.set_cons_zero, List.set_cons_succ]
            refine Held.one 4 (by kernel_rfl) ?_
            refine Held.op_append_keep 4 (some 51) 22 rfl rfl rfl rfl wr.heap.size 5 .u8 1 Tryd.underlying22 info_u8 (.slice A2_ n2_ c2_) _ rfl o2 _ A m c info rfl (ih.below c0_3) (by rw [h2l.out]; omega) (by omega) c0_3.size ?_
            intro A4_ n4_ c4_ w4 o4 g4 h4a h4b h4l j4 kp4
            have c0_4 := c0_3.grown g4 c0_3.size (fun r e => (o2.2.lt r e).1)
            obtain ⟨r8, ne8⟩ := kp4 _ _ _ _ r8 ne8
            obtain ⟨r11, ne11⟩ := kp4 _ _ _ _ r11 ne11
            have l4 : n4_ = n2_ + m := by have h := h4l.out; rw [List.length_append, h2l.out] at h; have := HIN.out; omega
            refine ⟨c0_4, ?_⟩
            simp only [Act.put, List.setIfInBounds_toArray, List.set_cons_zero, List.set_cons_succ]
            refine Held.one 9 (by kernel_rfl) ?_
            refine Held.op_append_keep 9 (some 56) 22 rfl rfl rfl rfl wr.heap.size 5 .u8 1 Tryd.underlying22 info_u8 (.slice A4_ n4_ c4_) _ rfl o4 _ (some ⟨p8, 0, none⟩) 1 1 [(k : Int) + 1] rfl (by have := r8.ints (n := 1) (by simp); simpa using this) (by rw [h4l.out]; omega) (by omega) c0_4.size ?_
            intro A9_ n9_ c9_ w5 o9 g9 h9a h9b h9l j9 kp9
            have c0_5 := c0_4.grown g9 c0_4.size (fun r e => (o4.2.lt r e).1)
            obtain ⟨r8, ne8⟩ := kp9 _ _ _ _ r8 ne8
            obtain ⟨r11, ne11⟩ := kp9 _ _ _ _ r11 ne11
            have l9 : n9_ = n4_ + 1 := by have h := h9l.out; rw [List.length_append, h4l.out] at h; simp at h; omega
            refine ⟨c0_5, ?_⟩
            simp only [Act.put, List.setIfInBounds_toArray, List.set_cons_zero, List.set_cons_succ]
            refine Held.one 10 (by kernel_rfl) ?_
            refine Held.op_call 10 (some 57) 17 #[.slice (some ⟨w.heap.size, 0, none⟩) 32 32, .slice A9_ n9_ c9_] rfl rfl rfl rfl (enters_of Tryd.func17 (by kernel_rfl) rfl) (by simp [Act.eval])
              (rtag_any _ _ _ _ 32 32 n9_ c9_ key _ _ (kq.below c0_5) c0_5.size (by omega) j9 (Nat.le_refl _) (by omega)) ?_
            rw [HX.out]
            rintro e w6 ⟨rfl, b6⟩
            have c0_6 := c0_5.trans (b6.mono c0_5.size)
            have r8 := r8.below b6 r8.lt
            have r11 := r11.below b6 r11.lt
            have o9 := o9.below b6
            have j9 := (j9.below b6).more b6.size
            refine ⟨_, rfl, c0_6, ?_⟩
            simp only [Act.put, List.setIfInBounds_toArray, List.set_cons_zero, List.set_cons_succ]
            refine Held.one 12 (by kernel_rfl) ?_
            refine Held.op_store_RowL 12 none 25 p11 25 .u8 _ (piece key info (k + 1)) rfl rfl rfl rfl rfl rfl r11 32 info_32 (piece_length _ _ _) (by simp) (piece_wf _ _ _) ?_
            intro w7 rS gS
            have c0_7 := c0_6.grown gS c0_6.size (fun r e => by cases e; exact lo11)
            refine ⟨c0_7, ?_⟩
            simp only [Act.put]
            refine wpAnyH_done (by kernel_rfl) ?_ _
            have rbE := rb.below c0_7 rb.lt
            have rkE := rk.below c0_7 rk.lt
            have bE := bk.trans (c0_7.mono bk.size)
            have iE := rbE.mid (l := q) (m := 32) (by rw [HOL.out]; omega)
            rw [HPC.out] at iE
            have iS := rS.ints (n := 32) (by rw [piece_length]; omega)
            rw [List.take_of_length_le (by rw [piece_length]; omega)] at iS
            go_wp2_with fail
            refine wp_region_held (S := fun W => Below w7.heap.size w7 W) (by kernel_rfl) ?_
            change wpAnyH _ _ _ _ _ _ _ _ w7.drew
            have d0 := (Below.refl w7.heap.size w7).drew
            refine Held.take (v := .slice (some ⟨p11, 0, none⟩) 32 32) 0 (some 65) rfl rfl (by kernel_rfl) (by kernel_rfl) (by kernel_rfl) (fun _ _ _ h => h) rfl (Held.y_slice rfl (fun W => run_slice_arr_all (P := Tryd.prog) 25 5 32 p11 W Tryd.underlying25 (by kernel_rfl) (by omega))) d0 ?_
            simp only [Act.put, List.setIfInBounds_toArray, List.set_cons_zero, List.set_cons_succ]
            refine Held.take (v := .string (strOfNums (piece key info (k + 1)))) 1 (some 66) rfl rfl (by kernel_rfl) (by kernel_rfl) (by kernel_rfl) (fun _ _ _ h => h) rfl (Held.y_text rfl rfl Tryd.underlying22 Tryd.underlying5 Tryd.underlying9 (fun W h => iS.below h)) d0 ?_
            simp only [Act.put, List.setIfInBounds_toArray, List.set_cons_zero, List.set_cons_succ]
            refine Held.take (v := .slice (some ⟨gb, q, none⟩) 32 (L - q)) 2 (some 67) rfl rfl (by kernel_rfl) (by kernel_rfl) (by kernel_rfl) (fun _ _ _ h => h) rfl (Held.y_move rfl rfl) d0 ?_
            simp only [Act.put, List.setIfInBounds_toArray, List.set_cons_zero, List.set_cons_succ]
            refine Held.take (v := .string (strOfNums (piece key info (k + 1)))) 3 (some 68) rfl rfl (by kernel_rfl) (by kernel_rfl) (by kernel_rfl) (fun _ _ _ h => h) rfl (Held.y_text rfl rfl Tryd.underlying22 Tryd.underlying5 Tryd.underlying9 (fun W h => iE.below h)) d0 ?_
            simp only [Act.put, List.setIfInBounds_toArray, List.set_cons_zero, List.set_cons_succ]
            refine Held.take (v := .bool false) 4 (some 69) rfl rfl (by kernel_rfl) (by kernel_rfl) (by kernel_rfl) (fun _ _ _ h => h) rfl (Held.y_nes rfl rfl rfl) d0 ?_
            simp only [Act.put, List.setIfInBounds_toArray, List.set_cons_zero, List.set_cons_succ]
            refine wpAnyH_done (by kernel_rfl) ?_ _
            go_wp2_with fail
            go_roundw
            case rel => exact ⟨k + 1, _, 32, _, by omega, by go_num, rfl, by omega, iE.below d0, rkE.below d0 rkE.lt, rbE.below d0 rbE.lt, bE.trans (d0.mono bE.size)⟩
            case measure => simp [intOf]; omega
        · refine Held.op_alloc_Row 11 (some 11) 25 .u8 32 rfl rfl rfl rfl zero_32 ?_
          intro p11 w2 r11 b2 q11
          have lo11 := Nat.le_trans c0_1.size q11.out
          have ne11 : some p11 ≠ (Value.slice none 0 0).ownBlock := by simp [Value.ownBlock]
          have c0_2 := c0_1.trans (b2.mono c0_1.size)
          have r8 := r8.below b2 r8.lt
          refine ⟨c0_2, ?_⟩
          simp only [Act.put, List.setIfInBounds_toArray, List.set_cons_zero, List.set_cons_succ]
          refine Held.one 2 (by kernel_rfl) ?_
          refine Held.op_append_keep 2 (some 49) 22 rfl rfl rfl rfl wr.heap.size 5 .u8 1 Tryd.underlying22 info_u8 (.slice none 0 0) [] rfl (Mem.Own.nil _ _ _ _) _ A4 n4 c4 (piece key info k) rfl (i4.below c0_2) (by simp; omega) (by omega) c0_2.size ?_
          intro A2_ n2_ c2_ w3 o2 g2 h2a h2b h2l j2 kp2
          have c0_3 := c0_2.grown g2 c0_2.size (fun r e => by cases e)
          obtain ⟨r8, ne8⟩ := kp2 _ _ _ _ r8 ne8
          obtain ⟨r11, ne11⟩ := kp2 _ _ _ _ r11 ne11
          have l2 : n2_ = n4 := by have h := h2l.out; rw [List.length_append, List.length_nil] at h; have := HI4.out; omega
          refine ⟨c0_3, ?_⟩
          simp only [Act.put, List.setIfInBounds_toArray, List.set_cons_zero, List.set_cons_succ]
          refine Held.one 4 (by kernel_rfl) ?_
          refine Held.op_append_keep 4 (some 51) 22 rfl rfl rfl rfl wr.heap.size 5 .u8 1 Tryd.underlying22 info_u8 (.slice A2_ n2_ c2_) _ rfl o2 _ A m c info rfl (ih.below c0_3) (by rw [h2l.out]; omega) (by omega) c0_3.size ?_
          intro A4_ n4_ c4_ w4 o4 g4 h4a h4b h4l j4 kp4
          have c0_4 := c0_3.grown g4 c0_3.size (fun r e => (o2.2.lt r e).1)
          obtain ⟨r8, ne8⟩ := kp4 _ _ _ _ r8 ne8
          obtain ⟨r11, ne11⟩ := kp4 _ _ _ _ r11 ne11
          have l4 : n4_ = n2_ + m := by have h := h4l.out; rw [List.length_append, h2l.out] at h; have := HIN.out; omega
          refine ⟨c0_4, ?_⟩
          simp only [Act.put, List.setIfInBounds_toArray, List.set_cons_zero, List.set_cons_succ]
          refine Held.one 9 (by kernel_rfl) ?_
          refine Held.op_append_keep 9 (some 56) 22 rfl rfl rfl rfl wr.heap.size 5 .u8 1 Tryd.underlying22 info_u8 (.slice A4_ n4_ c4_) _ rfl o4 _ (some ⟨p8, 0, none⟩) 1 1 [(k : Int) + 1] rfl (by have := r8.ints (n := 1) (by simp); simpa using this) (by rw [h4l.out]; omega) (by omega) c0_4.size ?_
          intro A9_ n9_ c9_ w5 o9 g9 h9a h9b h9l j9 kp9
          have c0_5 := c0_4.grown g9 c0_4.size (fun r e => (o4.2.lt r e).1)
          obtain ⟨r8, ne8⟩ := kp9 _ _ _ _ r8 ne8
          obtain ⟨r11, ne11⟩ := kp9 _ _ _ _ r11 ne11
          have l9 : n9_ = n4_ + 1 := by have h := h9l.out; rw [List.length_append, h4l.out] at h; simp at h; omega
          refine ⟨c0_5, ?_⟩
          simp only [Act.put, List.setIfInBounds_toArray, List.set_cons_zero, List.set_cons_succ]
          refine Held.one 10 (by kernel_rfl) ?_
          refine Held.op_call 10 (some 57) 17 #[.slice (some ⟨w.heap.size, 0, none⟩) 32 32, .slice A9_ n9_ c9_] rfl rfl rfl rfl (enters_of Tryd.func17 (by kernel_rfl) rfl) (by simp [Act.eval])
            (rtag_any _ _ _ _ 32 32 n9_ c9_ key _ _ (kq.below c0_5) c0_5.size (by omega) j9 (Nat.le_refl _) (by omega)) ?_
          rw [HX.out]
          rintro e w6 ⟨rfl, b6⟩
          have c0_6 := c0_5.trans (b6.mono c0_5.size)
          have r8 := r8.below b6 r8.lt
          have r11 := r11.below b6 r11.lt
          have o9 := o9.below b6
          have j9 := (j9.below b6).more b6.size
          refine ⟨_, rfl, c0_6, ?_⟩
          simp only [Act.put, List.setIfInBounds_toArray, List.set_cons_zero, List.set_cons_succ]
          refine Held.one 12 (by kernel_rfl) ?_
          refine Held.op_store_RowL 12 none 25 p11 25 .u8 _ (piece key info (k + 1)) rfl rfl rfl rfl rfl rfl r11 32 info_32 (piece_length _ _ _) (by simp) (piece_wf _ _ _) ?_
          intro w7 rS gS
          have c0_7 := c0_6.grown gS c0_6.size (fun r e => by cases e; exact lo11)
          refine ⟨c0_7, ?_⟩
          simp only [Act.put]
          refine wpAnyH_done (by kernel_rfl) ?_ _
          have rbE := rb.below c0_7 rb.lt
          have rkE := rk.below c0_7 rk.lt
          have bE := bk.trans (c0_7.mono bk.size)
          have iE := rbE.mid (l := q) (m := 32) (by rw [HOL.out]; omega)
          rw [HPC.out] at iE
          have iS := rS.ints (n := 32) (by rw [piece_length]; omega)
          rw [List.take_of_length_le (by rw [piece_length]; omega)] at iS
          go_wp2_with fail
          refine wp_region_held (S := fun W => Below w7.heap.size w7 W) (by kernel_rfl) ?_
          change wpAnyH _ _ _ _ _ _ _ _ w7.drew
          have d0 := (Below.refl w7.heap.size w7).drew
          refine Held.take (v := .slice (some ⟨p11, 0, none⟩) 32 32) 0 (some 65) rfl rfl (by kernel_rfl) (by kernel_rfl) (by kernel_rfl) (fun _ _ _ h => h) rfl (Held.y_slice rfl (fun W => run_slice_arr_all (P := Tryd.prog) 25 5 32 p11 W Tryd.underlying25 (by kernel_rfl) (by omega))) d0 ?_
          simp only [Act.put, List.setIfInBounds_toArray, List.set_cons_zero, List.set_cons_succ]
          refine Held.take (v := .string (strOfNums (piece key info (k + 1)))) 1 (some 66) rfl rfl (by kernel_rfl) (by kernel_rfl) (by kernel_rfl) (fun _ _ _ h => h) rfl (Held.y_text rfl rfl Tryd.underlying22 Tryd.underlying5 Tryd.underlying9 (fun W h => iS.below h)) d0 ?_
          simp only [Act.put, List.setIfInBounds_toArray, List.set_cons_zero, List.set_cons_succ]
          refine Held.take (v := .slice (some ⟨gb, q, none⟩) 32 (L - q)) 2 (some 67) rfl rfl (by kernel_rfl) (by kernel_rfl) (by kernel_rfl) (fun _ _ _ h => h) rfl (Held.y_move rfl rfl) d0 ?_
          simp only [Act.put, List.setIfInBounds_toArray, List.set_cons_zero, List.set_cons_succ]
          refine Held.take (v := .string (strOfNums (piece key info (k + 1)))) 3 (some 68) rfl rfl (by kernel_rfl) (by kernel_rfl) (by kernel_rfl) (fun _ _ _ h => h) rfl (Held.y_text rfl rfl Tryd.underlying22 Tryd.underlying5 Tryd.underlying9 (fun W h => iE.below h)) d0 ?_
          simp only [Act.put, List.setIfInBounds_toArray, List.set_cons_zero, List.set_cons_succ]
          refine Held.take (v := .bool false) 4 (some 69) rfl rfl (by kernel_rfl) (by kernel_rfl) (by kernel_rfl) (fun _ _ _ h => h) rfl (Held.y_nes rfl rfl rfl) d0 ?_
          simp only [Act.put, List.setIfInBounds_toArray, List.set_cons_zero, List.set_cons_succ]
          refine wpAnyH_done (by kernel_rfl) ?_ _
          go_wp2_with fail
          go_roundw
          case rel => exact ⟨k + 1, _, 32, _, by omega, by go_num, rfl, by omega, iE.below d0, rkE.below d0 rkE.lt, rbE.below d0 rbE.lt, bE.trans (d0.mono bE.size)⟩
          case measure => simp [intOf]; omega
      · refine Held.op_alloc_Row 11 (some 11) 25 .u8 32 rfl rfl rfl rfl zero_32 ?_
        intro p11 w1 r11 b1 q11
        have lo11 := Nat.le_trans c0_0.size q11.out
        have ne11 : some p11 ≠ (Value.slice none 0 0).ownBlock := by simp [Value.ownBlock]
        have c0_1 := c0_0.trans (b1.mono c0_0.size)
        refine ⟨c0_1, ?_⟩
        simp only [Act.put, List.setIfInBounds_toArray, List.set_cons_zero, List.set_cons_succ]
        refine Held.two 2 8 (by kernel_rfl) ?_ ?_
        · refine Held.op_append_keep 2 (some 49) 22 rfl rfl rfl rfl wr.heap.size 5 .u8 1 Tryd.underlying22 info_u8 (.slice none 0 0) [] rfl (Mem.Own.nil _ _ _ _) _ A4 n4 c4 (piece key info k) rfl (i4.below c0_1) (by simp; omega) (by omega) c0_1.size ?_
          intro A2_ n2_ c2_ w2 o2 g2 h2a h2b h2l j2 kp2
          have c0_2 := c0_1.grown g2 c0_1.size (fun r e => by cases e)
          obtain ⟨r11, ne11⟩ := kp2 _ _ _ _ r11 ne11
          have l2 : n2_ = n4 := by have h := h2l.out; rw [List.length_append, List.length_nil] at h; have := HI4.out; omega
          refine ⟨c0_2, ?_⟩
          simp only [Act.put, List.setIfInBounds_toArray, List.set_cons_zero, List.set_cons_succ]
          refine Held.two 4 8 (by kernel_rfl) ?_ ?_
          · refine Held.op_append_keep 4 (some 51) 22 rfl rfl rfl rfl wr.heap.size 5 .u8 1 Tryd.underlying22 info_u8 (.slice A2_ n2_ c2_) _ rfl o2 _ A m c info rfl (ih.below c0_2) (by rw [h2l.out]; omega) (by omega) c0_2.size ?_
            intro A4_ n4_ c4_ w3 o4 g4 h4a h4b h4l j4 kp4
            have c0_3 := c0_2.grown g4 c0_2.size (fun r e => (o2.2.lt r e).1)
            obtain ⟨r11, ne11⟩ := kp4 _ _ _ _ r11 ne11
            have l4 : n4_ = n2_ + m := by have h := h4l.out; rw [List.length_append, h2l.out] at h; have := HIN.out; omega
            refine ⟨c0_3, ?_⟩
            simp only [Act.put, List.setIfInBounds_toArray, List.set_cons_zero, List.set_cons_succ]
            refine Held.one 8 (by kernel_rfl) ?_
            refine Held.op_build_Row 8 (some 55) 22 5 1 .u8 1 [(k : Int) + 1] rfl rfl rfl rfl Tryd.underlying22 info_u8 (by simp [Act.eval]) rfl (by omega) (by omega) hw6 ?_
            intro p8 w4 r8 b4 q8
            have lo8 := Nat.le_trans c0_3.size q8.out
            have ne8 : some p8 ≠ (Value.slice A4_ n4_ c4_).ownBlock := Held.apart_new o4 q8.out
            have c0_4 := c0_3.trans (b4.mono c0_3.size)
            have o4 := o4.below b4
            have j4 := (j4.below b4).more b4.size
            have r11 := r11.below b4 r11.lt
            refine ⟨c0_4, ?_⟩
            simp only [Act.put, List.setIfInBounds_toArray, List.set_cons_zero, List.set_cons_succ]
            refine Held.one 9 (by kernel_rfl) ?_
            refine Held.op_append_keep 9 (some 56) 22 rfl rfl rfl rfl wr.heap.size 5 .u8 1 Tryd.underlying22 info_u8 (.slice A4_ n4_ c4_) _ rfl o4 _ (some ⟨p8, 0, none⟩) 1 1 [(k : Int) + 1] rfl (by have := r8.ints (n := 1) (by simp); simpa using this) (by rw [h4l.out]; omega) (by omega) c0_4.size ?_
            intro A9_ n9_ c9_ w5 o9 g9 h9a h9b h9l j9 kp9
            have c0_5 := c0_4.grown g9 c0_4.size (fun r e => (o4.2.lt r e).1)
            obtain ⟨r11, ne11⟩ := kp9 _ _ _ _ r11 ne11
            obtain ⟨r8, ne8⟩ := kp9 _ _ _ _ r8 ne8
            have l9 : n9_ = n4_ + 1 := by have h := h9l.out; rw [List.length_append, h4l.out] at h; simp at h; omega
            refine ⟨c0_5, ?_⟩
            simp only [Act.put, List.setIfInBounds_toArray, List.set_cons_zero, List.set_cons_succ]
            refine Held.one 10 (by kernel_rfl) ?_
            refine Held.op_call 10 (some 57) 17 #[.slice (some ⟨w.heap.size, 0, none⟩) 32 32, .slice A9_ n9_ c9_] rfl rfl rfl rfl (enters_of Tryd.func17 (by kernel_rfl) rfl) (by simp [Act.eval])
              (rtag_any _ _ _ _ 32 32 n9_ c9_ key _ _ (kq.below c0_5) c0_5.size (by omega) j9 (Nat.le_refl _) (by omega)) ?_
            rw [HX.out]
            rintro e w6 ⟨rfl, b6⟩
            have c0_6 := c0_5.trans (b6.mono c0_5.size)
            have r11 := r11.below b6 r11.lt
            have r8 := r8.below b6 r8.lt
            have o9 := o9.below b6
            have j9 := (j9.below b6).more b6.size
            refine ⟨_, rfl, c0_6, ?_⟩
            simp only [Act.put, List.setIfInBounds_toArray, List.set_cons_zero, List.set_cons_succ]
            refine Held.one 12 (by kernel_rfl) ?_
            refine Held.op_store_RowL 12 none 25 p11 25 .u8 _ (piece key info (k + 1)) rfl rfl rfl rfl rfl rfl r11 32 info_32 (piece_length _ _ _) (by simp) (piece_wf _ _ _) ?_
            intro w7 rS gS
            have c0_7 := c0_6.grown gS c0_6.size (fun r e => by cases e; exact lo11)
            refine ⟨c0_7, ?_⟩
            simp only [Act.put]
            refine wpAnyH_done (by kernel_rfl) ?_ _
            have rbE := rb.below c0_7 rb.lt
            have rkE := rk.below c0_7 rk.lt
            have bE := bk.trans (c0_7.mono bk.size)
            have iE := rbE.mid (l := q) (m := 32) (by rw [HOL.out]; omega)
            rw [HPC.out] at iE
            have iS := rS.ints (n := 32) (by rw [piece_length]; omega)
            rw [List.take_of_length_le (by rw [piece_length]; omega)] at iS
            go_wp2_with fail
            refine wp_region_held (S := fun W => Below w7.heap.size w7 W) (by kernel_rfl) ?_
            change wpAnyH _ _ _ _ _ _ _ _ w7.drew
            have d0 := (Below.refl w7.heap.size w7).drew
            refine Held.take (v := .slice (some ⟨p11, 0, none⟩) 32 32) 0 (some 65) rfl rfl (by kernel_rfl) (by kernel_rfl) (by kernel_rfl) (fun _ _ _ h => h) rfl (Held.y_slice rfl (fun W => run_slice_arr_all (P := Tryd.prog) 25 5 32 p11 W Tryd.underlying25 (by kernel_rfl) (by omega))) d0 ?_
            simp only [Act.put, List.setIfInBounds_toArray, List.set_cons_zero, List.set_cons_succ]
            refine Held.take (v := .string (strOfNums (piece key info (k + 1)))) 1 (some 66) rfl rfl (by kernel_rfl) (by kernel_rfl) (by kernel_rfl) (fun _ _ _ h => h) rfl (Held.y_text rfl rfl Tryd.underlying22 Tryd.underlying5 Tryd.underlying9 (fun W h => iS.below h)) d0 ?_
            simp only [Act.put, List.setIfInBounds_toArray, List.set_cons_zero, List.set_cons_succ]
            refine Held.take (v := .slice (some ⟨gb, q, none⟩) 32 (L - q)) 2 (some 67) rfl rfl (by kernel_rfl) (by kernel_rfl) (by kernel_rfl) (fun _ _ _ h => h) rfl (Held.y_move rfl rfl) d0 ?_
            simp only [Act.put, List.setIfInBounds_toArray, List.set_cons_zero, List.set_cons_succ]
            refine Held.take (v := .string (strOfNums (piece key info (k + 1)))) 3 (some 68) rfl rfl (by kernel_rfl) (by kernel_rfl) (by kernel_rfl) (fun _ _ _ h => h) rfl (Held.y_text rfl rfl Tryd.underlying22 Tryd.underlying5 Tryd.underlying9 (fun W h => iE.below h)) d0 ?_
            simp only [Act.put, List.setIfInBounds_toArray, List.set_cons_zero, List.set_cons_succ]
            refine Held.take (v := .bool false) 4 (some 69) rfl rfl (by kernel_rfl) (by kernel_rfl) (by kernel_rfl) (fun _ _ _ h => h) rfl (Held.y_nes rfl rfl rfl) d0 ?_
            simp only [Act.put, List.setIfInBounds_toArray, List.set_cons_zero, List.set_cons_succ]
            refine wpAnyH_done (by kernel_rfl) ?_ _
            go_wp2_with fail
            go_roundw
            case rel => exact ⟨k + 1, _, 32, _, by omega, by go_num, rfl, by omega, iE.below d0, rkE.below d0 rkE.lt, rbE.below d0 rbE.lt, bE.trans (d0.mono bE.size)⟩
            case measure => simp [intOf]; omega
          · refine Held.op_build_Row 8 (some 55) 22 5 1 .u8 1 [(k : Int) + 1] rfl rfl rfl rfl Tryd.underlying22 info_u8 (by simp [Act.eval]) rfl (by omega) (by omega) hw6 ?_
            intro p8 w3 r8 b3 q8
            have lo8 := Nat.le_trans c0_2.size q8.out
            have ne8 : some p8 ≠ (Value.slice A2_ n2_ c2_).ownBlock := Held.apart_new o2 q8.out
            have c0_3 := c0_2.trans (b3.mono c0_2.size)
            have o2 := o2.below b3
            have j2 := (j2.below b3).more b3.size
            have r11 := r11.below b3 r11.lt
            refine ⟨c0_3, ?_⟩
            simp only [Act.put, List.setIfInBounds_toArray, List.set_cons_zero, List.set_cons_succ]
            refine Held.one 4 (by kernel_rfl) ?_
            refine Held.op_append_keep 4 (some 51) 22 rfl rfl rfl rfl wr.heap.size 5 .u8 1 Tryd.underlying22 info_u8 (.slice A2_ n2_ c2_) _ rfl o2 _ A m c info rfl (ih.below c0_3) (by rw [h2l.out]; omega) (by omega) c0_3.size ?_
            intro A4_ n4_ c4_ w4 o4 g4 h4a h4b h4l j4 kp4
            have c0_4 := c0_3.grown g4 c0_3.size (fun r e => (o2.2.lt r e).1)
            obtain ⟨r11, ne11⟩ := kp4 _ _ _ _ r11 ne11
            obtain ⟨r8, ne8⟩ := kp4 _ _ _ _ r8 ne8
            have l4 : n4_ = n2_ + m := by have h := h4l.out; rw [List.length_append, h2l.out] at h; have := HIN.out; omega
            refine ⟨c0_4, ?_⟩
            simp only [Act.put, List.setIfInBounds_toArray, List.set_cons_zero, List.set_cons_succ]
            refine Held.one 9 (by kernel_rfl) ?_
            refine Held.op_append_keep 9 (some 56) 22 rfl rfl rfl rfl wr.heap.size 5 .u8 1 Tryd.underlying22 info_u8 (.slice A4_ n4_ c4_) _ rfl o4 _ (some ⟨p8, 0, none⟩) 1 1 [(k : Int) + 1] rfl (by have := r8.ints (n := 1) (by simp); simpa using this) (by rw [h4l.out]; omega) (by omega) c0_4.size ?_
            intro A9_ n9_ c9_ w5 o9 g9 h9a h9b h9l j9 kp9
            have c0_5 := c0_4.grown g9 c0_4.size (fun r e => (o4.2.lt r e).1)
            obtain ⟨r11, ne11⟩ := kp9 _ _ _ _ r11 ne11
            obtain ⟨r8, ne8⟩ := kp9 _ _ _ _ r8 ne8
            have l9 : n9_ = n4_ + 1 := by have h := h9l.out; rw [List.length_append, h4l.out] at h; simp at h; omega
            refine ⟨c0_5, ?_⟩
            simp only [Act.put, List.setIfInBounds_toArray, List.set_cons_zero, List.set_cons_succ]
            refine Held.one 10 (by kernel_rfl) ?_
            refine Held.op_call 10 (some 57) 17 #[.slice (some ⟨w.heap.size, 0, none⟩) 32 32, .slice A9_ n9_ c9_] rfl rfl rfl rfl (enters_of Tryd.func17 (by kernel_rfl) rfl) (by simp [Act.eval])
              (rtag_any _ _ _ _ 32 32 n9_ c9_ key _ _ (kq.below c0_5) c0_5.size (by omega) j9 (Nat.le_refl _) (by omega)) ?_
            rw [HX.out]
            rintro e w6 ⟨rfl, b6⟩
            have c0_6 := c0_5.trans (b6.mono c0_5.size)
            have r11 := r11.below b6 r11.lt
            have r8 := r8.below b6 r8.lt
            have o9 := o9.below b6
            have j9 := (j9.below b6).more b6.size
            refine ⟨_, rfl, c0_6, ?_⟩
            simp only [Act.put, List.setIfInBounds_toArray, List.set_cons_zero, List.set_cons_succ]
            refine Held.one 12 (by kernel_rfl) ?_
            refine Held.op_store_RowL 12 none 25 p11 25 .u8 _ (piece key info (k + 1)) rfl rfl rfl rfl rfl rfl r11 32 info_32 (piece_length _ _ _) (by simp) (piece_wf _ _ _) ?_
            intro w7 rS gS
            have c0_7 := c0_6.grown gS c0_6.size (fun r e => by cases e; exact lo11)
            refine ⟨c0_7, ?_⟩
            simp only [Act.put]
            refine wpAnyH_done (by kernel_rfl) ?_ _
            have rbE := rb.below c0_7 rb.lt
            have rkE := rk.below c0_7 rk.lt
            have bE := bk.trans (c0_7.mono bk.size)
            have iE := rbE.mid (l := q) (m := 32) (by rw [HOL.out]; omega)
            rw [HPC.out] at iE
            have iS := rS.ints (n := 32) (by rw [piece_length]; omega)
            rw [List.take_of_length_le (by rw [piece_length]; omega)] at iS
            go_wp2_with fail
            refine wp_region_held (S := fun W => Below w7.heap.size w7 W) (by kernel_rfl) ?_
            change wpAnyH _ _ _ _ _ _ _ _ w7.drew
            have d0 := (Below.refl w7.heap.size w7).drew
            refine Held.take (v := .slice (some ⟨p11, 0, none⟩) 32 32) 0 (some 65) rfl rfl (by kernel_rfl) (by kernel_rfl) (by kernel_rfl) (fun _ _ _ h => h) rfl (Held.y_slice rfl (fun W => run_slice_arr_all (P := Tryd.prog) 25 5 32 p11 W Tryd.underlying25 (by kernel_rfl) (by omega))) d0 ?_
            simp only [Act.put, List.setIfInBounds_toArray, List.set_cons_zero, List.set_cons_succ]
            refine Held.take (v := .string (strOfNums (piece key info (k + 1)))) 1 (some 66) rfl rfl (by kernel_rfl) (by kernel_rfl) (by kernel_rfl) (fun _ _ _ h => h) rfl (Held.y_text rfl rfl Tryd.underlying22 Tryd.underlying5 Tryd.underlying9 (fun W h => iS.below h)) d0 ?_
            simp only [Act.put, List.setIfInBounds_toArray, List.set_cons_zero, List.set_cons_succ]
            refine Held.take (v := .slice (some ⟨gb, q, none⟩) 32 (L - q)) 2 (some 67) rfl rfl (by kernel_rfl) (by kernel_rfl) (by kernel_rfl) (fun _ _ _ h => h) rfl (Held.y_move rfl rfl) d0 ?_
            simp only [Act.put, List.setIfInBounds_toArray, List.set_cons_zero, List.set_cons_succ]
            refine Held.take (v := .string (strOfNums (piece key info (k + 1)))) 3 (some 68) rfl rfl (by kernel_rfl) (by kernel_rfl) (by kernel_rfl) (fun _ _ _ h => h) rfl (Held.y_text rfl rfl Tryd.underlying22 Tryd.underlying5 Tryd.underlying9 (fun W h => iE.below h)) d0 ?_
            simp only [Act.put, List.setIfInBounds_toArray, List.set_cons_zero, List.set_cons_succ]
            refine Held.take (v := .bool false) 4 (some 69) rfl rfl (by kernel_rfl) (by kernel_rfl) (by kernel_rfl) (fun _ _ _ h => h) rfl (Held.y_nes rfl rfl rfl) d0 ?_
            simp only [Act.put, List.setIfInBounds_toArray, List.set_cons_zero, List.set_cons_succ]
            refine wpAnyH_done (by kernel_rfl) ?_ _
            go_wp2_with fail
            go_roundw
            case rel => exact ⟨k + 1, _, 32, _, by omega, by go_num, rfl, by omega, iE.below d0, rkE.below d0 rkE.lt, rbE.below d0 rbE.lt, bE.trans (d0.mono bE.size)⟩
            case measure => simp [intOf]; omega
        · refine Held.op_build_Row 8 (some 55) 22 5 1 .u8 1 [(k : Int) + 1] rfl rfl rfl rfl Tryd.underlying22 info_u8 (by simp [Act.eval]) rfl (by omega) (by omega) hw6 ?_
          intro p8 w2 r8 b2 q8
          have lo8 := Nat.le_trans c0_1.size q8.out
          have ne8 : some p8 ≠ (Value.slice none 0 0).ownBlock := by simp [Value.ownBlock]
          have c0_2 := c0_1.trans (b2.mono c0_1.size)
          have r11 := r11.below b2 r11.lt
          refine ⟨c0_2, ?_⟩
          simp only [Act.put, List.setIfInBounds_toArray, List.set_cons_zero, List.set_cons_succ]
          refine Held.one 2 (by kernel_rfl) ?_
          refine Held.op_append_keep 2 (some 49) 22 rfl rfl rfl rfl wr.heap.size 5 .u8 1 Tryd.underlying22 info_u8 (.slice none 0 0) [] rfl (Mem.Own.nil _ _ _ _) _ A4 n4 c4 (piece key info k) rfl (i4.below c0_2) (by simp; omega) (by omega) c0_2.size ?_
          intro A2_ n2_ c2_ w3 o2 g2 h2a h2b h2l j2 kp2
          have c0_3 := c0_2.grown g2 c0_2.size (fun r e => by cases e)
          obtain ⟨r11, ne11⟩ := kp2 _ _ _ _ r11 ne11
          obtain ⟨r8, ne8⟩ := kp2 _ _ _ _ r8 ne8
          have l2 : n2_ = n4 := by have h := h2l.out; rw [List.length_append, List.length_nil] at h; have := HI4.out; omega
          refine ⟨c0_3, ?_⟩
          simp only [Act.put, List.setIfInBounds_toArray, List.set_cons_zero, List.set_cons_succ]
          refine Held.one 4 (by kernel_rfl) ?_
          refine Held.op_append_keep 4 (some 51) 22 rfl rfl rfl rfl wr.heap.size 5 .u8 1 Tryd.underlying22 info_u8 (.slice A2_ n2_ c2_) _ rfl o2 _ A m c info rfl (ih.below c0_3) (by rw [h2l.out]; omega) (by omega) c0_3.size ?_
          intro A4_ n4_ c4_ w4 o4 g4 h4a h4b h4l j4 kp4
          have c0_4 := c0_3.grown g4 c0_3.size (fun r e => (o2.2.lt r e).1)
          obtain ⟨r11, ne11⟩ := kp4 _ _ _ _ r11 ne11
          obtain ⟨r8, ne8⟩ := kp4 _ _ _ _ r8 ne8
          have l4 : n4_ = n2_ + m := by have h := h4l.out; rw [List.length_append, h2l.out] at h; have := HIN.out; omega
          refine ⟨c0_4, ?_⟩
          simp only [Act.put, List.setIfInBounds_toArray, List.set_cons_zero, List.set_cons_succ]
          refine Held.one 9 (by kernel_rfl) ?_
          refine Held.op_append_keep 9 (some 56) 22 rfl rfl rfl rfl wr.heap.size 5 .u8 1 Tryd.underlying22 info_u8 (.slice A4_ n4_ c4_) _ rfl o4 _ (some ⟨p8, 0, none⟩) 1 1 [(k : Int) + 1] rfl (by have := r8.ints (n := 1) (by simp); simpa using this) (by rw [h4l.out]; omega) (by omega) c0_4.size ?_
          intro A9_ n9_ c9_ w5 o9 g9 h9a h9b h9l j9 kp9
          have c0_5 := c0_4.grown g9 c0_4.size (fun r e => (o4.2.lt r e).1)
          obtain ⟨r11, ne11⟩ := kp9 _ _ _ _ r11 ne11
          obtain ⟨r8, ne8⟩ := kp9 _ _ _ _ r8 ne8
          have l9 : n9_ = n4_ + 1 := by have h := h9l.out; rw [List.length_append, h4l.out] at h; simp at h; omega
          refine ⟨c0_5, ?_⟩
          simp only [Act.put, List.setIfInBounds_toArray, List.set_cons_zero, List.set_cons_succ]
          refine Held.one 10 (by kernel_rfl) ?_
          refine Held.op_call 10 (some 57) 17 #[.slice (some ⟨w.heap.size, 0, none⟩) 32 32, .slice A9_ n9_ c9_] rfl rfl rfl rfl (enters_of Tryd.func17 (by kernel_rfl) rfl) (by simp [Act.eval])
            (rtag_any _ _ _ _ 32 32 n9_ c9_ key _ _ (kq.below c0_5) c0_5.size (by omega) j9 (Nat.le_refl _) (by omega)) ?_
          rw [HX.out]
          rintro e w6 ⟨rfl, b6⟩
          have c0_6 := c0_5.trans (b6.mono c0_5.size)
          have r11 := r11.below b6 r11.lt
          have r8 := r8.below b6 r8.lt
          have o9 := o9.below b6
          have j9 := (j9.below b6).more b6.size
          refine ⟨_, rfl, c0_6, ?_⟩
          simp only [Act.put, List.setIfInBounds_toArray, List.set_cons_zero, List.set_cons_succ]
          refine Held.one 12 (by kernel_rfl) ?_
          refine Held.op_store_RowL 12 none 25 p11 25 .u8 _ (piece key info (k + 1)) rfl rfl rfl rfl rfl rfl r11 32 info_32 (piece_length _ _ _) (by simp) (piece_wf _ _ _) ?_
          intro w7 rS gS
          have c0_7 := c0_6.grown gS c0_6.size (fun r e => by cases e; exact lo11)
          refine ⟨c0_7, ?_⟩
          simp only [Act.put]
          refine wpAnyH_done (by kernel_rfl) ?_ _
          have rbE := rb.below c0_7 rb.lt
          have rkE := rk.below c0_7 rk.lt
          have bE := bk.trans (c0_7.mono bk.size)
          have iE := rbE.mid (l := q) (m := 32) (by rw [HOL.out]; omega)
          rw [HPC.out] at iE
          have iS := rS.ints (n := 32) (by rw [piece_length]; omega)
          rw [List.take_of_length_le (by rw [piece_length]; omega)] at iS
          go_wp2_with fail
          refine wp_region_held (S := fun W => Below w7.heap.size w7 W) (by kernel_rfl) ?_
          change wpAnyH _ _ _ _ _ _ _ _ w7.drew
          have d0 := (Below.refl w7.heap.size w7).drew
          refine Held.take (v := .slice (some ⟨p11, 0, none⟩) 32 32) 0 (some 65) rfl rfl (by kernel_rfl) (by kernel_rfl) (by kernel_rfl) (fun _ _ _ h => h) rfl (Held.y_slice rfl (fun W => run_slice_arr_all (P := Tryd.prog) 25 5 32 p11 W Tryd.underlying25 (by kernel_rfl) (by omega))) d0 ?_
          simp only [Act.put, List.setIfInBounds_toArray, List.set_cons_zero, List.set_cons_succ]
          refine Held.take (v := .string (strOfNums (piece key info (k + 1)))) 1 (some 66) rfl rfl (by kernel_rfl) (by kernel_rfl) (by kernel_rfl) (fun _ _ _ h => h) rfl (Held.y_text rfl rfl Tryd.underlying22 Tryd.underlying5 Tryd.underlying9 (fun W h => iS.below h)) d0 ?_
          simp only [Act.put, List.setIfInBounds_toArray, List.set_cons_zero, List.set_cons_succ]
          refine Held.take (v := .slice (some ⟨gb, q, none⟩) 32 (L - q)) 2 (some 67) rfl rfl (by kernel_rfl) (by kernel_rfl) (by kernel_rfl) (fun _ _ _ h => h) rfl (Held.y_move rfl rfl) d0 ?_
          simp only [Act.put, List.setIfInBounds_toArray, List.set_cons_zero, List.set_cons_succ]
          refine Held.take (v := .string (strOfNums (piece key info (k + 1)))) 3 (some 68) rfl rfl (by kernel_rfl) (by kernel_rfl) (by kernel_rfl) (fun _ _ _ h => h) rfl (Held.y_text rfl rfl Tryd.underlying22 Tryd.underlying5 Tryd.underlying9 (fun W h => iE.below h)) d0 ?_
          simp only [Act.put, List.setIfInBounds_toArray, List.set_cons_zero, List.set_cons_succ]
          refine Held.take (v := .bool false) 4 (some 69) rfl rfl (by kernel_rfl) (by kernel_rfl) (by kernel_rfl) (fun _ _ _ h => h) rfl (Held.y_nes rfl rfl rfl) d0 ?_
          simp only [Act.put, List.setIfInBounds_toArray, List.set_cons_zero, List.set_cons_succ]
          refine wpAnyH_done (by kernel_rfl) ?_ _
          go_wp2_with fail
          go_roundw
          case rel => exact ⟨k + 1, _, 32, _, by omega, by go_num, rfl, by omega, iE.below d0, rkE.below d0 rkE.lt, rbE.below d0 rbE.lt, bE.trans (d0.mono bE.size)⟩
          case measure => simp [intOf]; omega
    · have hlt' : ¬ (k : Int) < (N : Int) := by omega
      go_wp2_with fail
      go_ret
      exact ⟨rfl, bk⟩

theorem walk (z0 : List Int) (a1 : Option Addr) (len1 cap1 : Nat) (z1 : List Int) (a2 : Int) (w : World) (zl0 : z0.length = 32) (zw0 : ∀ z ∈ z0, (Lit.int .u8 z).wf = true) (w1 : IsRow .u8 w a1 len1 cap1 z1) (w2 : (Lit.int .i64 a2).wf = true) (hL : laidMetH Tryd.prog laidList w) :
    Calls Tryd.prog 5 #[.agg (Mem.arr .u8 z0), .slice a1 len1 cap1, .int .i64 a2] w fun e w' => e = .returned (.bool true) ∧ Below w.heap.size w w' := by
  obtain ⟨h, hl, hm⟩ := ints_of_row w1
  exact start z0 _ zl0 zw0 a1 len1 cap1 a2 w h hl hm (sha_of_laid hL)

set_option maxRecDepth 100000 in
theorem door_met (os : Os) (args : Array Value) : laidMetH Tryd.prog laidList ((World.doorLaid Tryd.prog 400 os).forCall (fun _ _ => 0) ⟨#[], args, []⟩).memory :=
  laidMetH_of_parts3 (fuel := 8) (laidMet_of_run' 8 (by kernel_rfl) (by kernel_rfl)) (by kernel_rfl) (by kernel_rfl)

set_option maxRecDepth 100000 in
theorem lifted (os : Os) (started : os.Started) (H : Type) (enc : TypeId × Value → H) :
    ReturnsInHanded {} Tryd.checked os 5 .any (fun w args => (Rows.hkdfPiecesSpec.pre enc Tryd.prog Tryd.f5 [] false w args ∧ laidMetH Tryd.prog laidList w) ∧ sizedMet enc Tryd.prog Tryd.f5 (OpenSpec.ofChange Rows.hkdfPiecesSpec) false w args)
      (Rows.hkdfPiecesSpec.post enc Tryd.prog Tryd.f5 false true false false) := by
  refine returnsInHanded_of_change_and (C := Tryd.checked) (X := fun w _ => laidMetH Tryd.prog laidList w) (fun _ _ _ hh h => h.of_heap hh) own started (by kernel_rfl) Tryd.func5
    (ChangeSpec.witness_shaped (enc := enc) (C := Tryd.checked) (os := os) (X := fun w _ => laidMetH Tryd.prog laidList w) false (World.doorLaid Tryd.prog 400 os) #[.agg (Array.replicate 32 (.int .u8 0)), .slice none 0 0, .int .i64 0] 8 rfl (World.shaped_of_RefB (by kernel_rfl) (by kernel_rfl)) (by kernel_rfl) (by kernel_rfl) (by kernel_rfl) (door_met os _)) ?_
  intro W base args ds gs before hval0 hW _ _ hL _
  have hval : ∀ (j : Nat) t v, Tryd.f5.params[j]? = some t → args[j]? = some v → Value.okWide Tryd.prog W .any base t v := hval0
  have hW' := hW
  obtain ⟨p, q, hA0, hV, rfl, hfz, hnd⟩ := hW
  have hA : DataW.TrodAll enc Tryd.prog W 0 (fun _ => true) true Tryd.f5.params.toList args.toList ds p := hA0
  rw [Tryd.params5] at hA hval
  obtain ⟨v0, vs0, d0, ds0, p0, q0, hargs, rfl, rfl, h0, r0⟩ := trodAll_cons hA
  obtain ⟨v1, vs1, d1, ds1, p1, q1, rfl, rfl, rfl, h1, r1⟩ := trodAll_cons r0
  obtain ⟨v2, vs2, d2, ds2, p2, q2, rfl, rfl, rfl, h2, r2⟩ := trodAll_cons r1
  obtain ⟨rfl, rfl, rfl⟩ := trodAll_nil r2
  obtain rfl : args = #[v0, v1, v2] := by cases args; simp_all
  obtain ⟨rfl, rfl⟩ := trodVars_none hV
  have k0 := h0
  have lt0 : ∀ x ∈ p0, x.block < W.heap.size := by obtain ⟨m, hm⟩ := k0; exact DataW.trod_lt m _ _ _ hm
  obtain ⟨z0, rfl, zl0, zw0⟩ := Mem.open_arr Tryd.underlying25 Tryd.underlying5 (by kernel_rfl) (by kernel_rfl) (hval 0 25 v0 rfl rfl) h0
  obtain ⟨a1, len1, cap1, rfl⟩ := okWide_slice Tryd.underlying22 (hval 1 22 v1 rfl rfl)
  have k1 := h1
  have lt1 : ∀ x ∈ p1, x.block < W.heap.size := by obtain ⟨m, hm⟩ := k1; exact DataW.trod_lt m _ _ _ hm
  obtain ⟨z1, w1⟩ : ∃ zs, IsRow .u8 W a1 len1 cap1 zs := by
    obtain ⟨fuel, hf⟩ := h1
    rcases open_ints Tryd.underlying22 Tryd.underlying5 (by kernel_rfl) hf with ⟨hcs, _⟩ | ⟨x, l, c, zs, hcs, _, hl, hm, hz, _, hcell, hwz⟩
    · simp [Value.cells] at hcs
      obtain ⟨rfl, rfl, rfl⟩ := hcs
      exact ⟨[], .inl ⟨rfl, rfl, rfl, rfl⟩⟩
    · simp [Value.cells] at hcs
      obtain ⟨rfl, rfl, rfl⟩ := hcs
      exact ⟨zs, .inr ⟨_, rfl, hl, hm, by simpa using hz, hcell, hwz⟩⟩
  obtain ⟨a2, rfl, rfl, rfl, w2⟩ := open_int Tryd.underlying3 (hval 2 3 v2 rfl rfl) h2
  clear hA0 hval0
  refine (walk z0 a1 len1 cap1 z1 a2 W zl0 zw0 w1 w2 hL).mono fun e W' ⟨he, bel⟩ => ?_
  subst he
  exact ⟨_, rfl, _, _, _, [], _, [], hW', trodAll_mk1 (shut_bool Tryd.underlying4 _), (trodAll_cons_mk (Below.trod laidOut (by kernel_rfl) (of_decide_eq_true (by kernel_rfl)) k0 bel lt0) (trodAll_cons_mk (Below.trod laidOut (by kernel_rfl) (of_decide_eq_true (by kernel_rfl)) k1 bel lt1) (trodAll_cons_mk (shut_int Tryd.underlying3 w2) trodAll_mk0))), rfl, bel.frame _, fun h => by cases h⟩

theorem over : Rows.hkdfPiecesRow.holds Tryd.pinned (OpenSpec.ofChange Rows.hkdfPiecesSpec) :=
  OpenClaim.holds_of_wide 5 Tryd.f5 rfl rfl rfl rfl rfl rfl rfl ⟨rfl, rfl, rfl, rfl, rfl⟩ rfl rfl rfl rfl rfl (by kernel_rfl) Tryd.func5 (by kernel_rfl)
    (of_decide_eq_true (by kernel_rfl)) (by unfold Func.isWrapper; first | (rw [if_pos (by decide +kernel)]; kernel_rfl) | (rw [if_neg (by decide +kernel)]; exact ⟨rfl, rfl⟩))
    (fun os started H enc _ => lifted os started H enc)

/-- the statement -/
theorem proved : Rows.HkdfPiecesCardSaid :=
  Claim7.holds_tied_plain_at .later [] [.data, .data] true (true, "32f6b24c69c7a4d5a74b7e76ad39c8f9140722c6a5250b182338480d9edaa433") false
    over (fun _ h => by cases h) (by kernel_rfl) (fun _ h => by cases h) hkdfPieces_row_tie rfl ⟨rfl, rfl⟩ (by kernel_rfl) rfl
    (fun f fn hf hfn => by
      obtain rfl : f = 5 := Option.some.inj ((show Tryd.prog.funcNamed "domino/dominolaw04.HkdfPieces" = some 5 by kernel_rfl).symm.trans hf) |>.symm
      obtain rfl : fn = Tryd.f5 := (Option.some.inj (Tryd.func5.symm.trans hfn)).symm
      exact ⟨by kernel_rfl, fun j t ht => by
        rw [Tryd.params5] at ht
        have hm : t ∈ [25, 22, 3] := by simpa using Array.mem_of_getElem? ht
        have hall : ([25, 22, 3].all fun u => !Tryd.prog.wantsStandIn u) = true := by kernel_rfl
        exact (show Tryd.prog.wantsStandIn t = false by simpa using List.all_eq_true.1 hall t hm)⟩)
    (by kernel_rfl)
#print axioms proved
end Go.Proofs.YtbfdhbobokfbhaaDoor.hkdfPieces
