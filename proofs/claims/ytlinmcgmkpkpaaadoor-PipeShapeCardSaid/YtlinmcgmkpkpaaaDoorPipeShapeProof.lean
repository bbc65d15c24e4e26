/-
  The law PipeShape of package dominolaw16 returns true for every job and every number of a stage: each stage has as many blocks as there are, each of as many records; behind the first rounds all of it is sorted, the last one dead; behind the last ones it is sorted, what is alive first.
-/
import Derived.Test.YtlinmcgmkpkpaaaDoorRows
import Derived.Test.YtlinmcgmkpkpaaaDoorCards
import Derived.Test.YtlinmcgmkpkpaaaDoorTie
import Derived.SevenTiedAt
import Derived.WalkKit
import Derived.ProofKit
import Derived.OpenShut
import Derived.ShutString
import Derived.ChangeOld
import Derived.Below
import Derived.LaidMore
import Derived.Stop.Joined
import Derived.Test.YtlinmcgmkpkpaaaDoorB21
import Derived.Test.YtlinmcgmkpkpaaaDoorB9
namespace Go.Proofs.YtlinmcgmkpkpaaaDoor.pipeShape
open Go.ChangeShapes Go.WideShapes Go.ChangeAt Go.RowKit
open Go.ChangeMaps (open_string shut_string)
open Go.Shelf Go.Proofs.YtlinmcgmkpkpaaaDoor Mem Held Ct Rc Rs Sl Vm Sp Mg Go.Proofs.YtlinmcgmkpkpaaaDoor.Pi
theorem own : ownKnob Tryd.prog.godebug = none := by kernel_rfl
theorem laidOut : laidOutB Tryd.prog = true := by kernel_rfl
def laidList : List (String × DataW Unit) := [("math/bits.deBruijn32tab", Rows.laid_math_bits_deBruijn32tab), ("math/bits.deBruijn64tab", Rows.laid_math_bits_deBruijn64tab)]
attribute [local irreducible] wpList wpListIn Calls
attribute [local go_sem] Oper.semAt_some
theorem which (x : Int) (T : Nat) (hT : T ≤ 136) : ∃ (N : Int) (a nn : Nat), IntKind.u64.wrap x = N ∧ IntKind.u64.wrap (2 + 2 * (T : Int)) = 2 + 2 * (T : Int) ∧ N.tmod (2 + 2 * (T : Int)) = (a : Int) ∧ IntKind.i64.wrap (a : Int) = (a : Int) ∧ IntKind.i64.wrap (1 + (a : Int)) = (nn : Int) ∧ 1 ≤ nn ∧ nn ≤ 2 + 2 * T := by
  obtain ⟨N, hN⟩ : ∃ N : Int, IntKind.u64.wrap x = N := ⟨_, rfl⟩
  have hN0 : 0 ≤ N := by rw [← hN, IntKind.wrap_u64]; omega
  have h1 := Int.emod_nonneg N (show 2 + 2 * (T : Int) ≠ 0 by omega)
  have h2 := Int.emod_lt_of_pos N (show (0 : Int) < 2 + 2 * (T : Int) by omega)
  refine ⟨N, (N % (2 + 2 * (T : Int))).toNat, (N % (2 + 2 * (T : Int))).toNat + 1, hN, ?_, ?_, ?_, ?_, by omega, by omega⟩
  · rw [IntKind.wrap_u64]; omega
  · rw [Int.tmod_eq_emod_of_nonneg hN0]; omega
  · rw [IntKind.wrap_i64]; omega
  · rw [IntKind.wrap_i64]; omega
set_option maxRecDepth 100000 in
set_option maxHeartbeats 16000000 in
theorem start (Z : Nat → Value) (K : Int) (A1 : Option Addr) (n1 c1 : Nat) (x1 : List O) (A2 : Option Addr) (n2 c2 : Nat) (x2 : List O) (A3 : Option Addr) (n3 c3 : Nat) (x3 : List O) (pr pk pb pw : Int) (A : Option Addr) (n c : Nat) (ps : List (Int × Int)) (num : Int) (w : World) (hZ : Zok Z)
    (h1 : Lst kO w w.heap.size A1 n1 x1) (h2 : Lst kO w w.heap.size A2 n2 x2) (h3 : Lst kO w w.heap.size A3 n3 x3) (hp : Lst kP w w.heap.size A n ps) (hnc : n ≤ c) (hcm : c ≤ maxLen) (hT : Bi.TzT w) :
    Calls Tryd.prog 4 #[.agg (jb Z K A1 n1 c1 A2 n2 c2 A3 n3 c3 pr pk pb pw A n c), .int .i64 num] w fun e w' => e = .returned (.bool true) ∧ Below w.heap.size w w' := by
  go_enter Tryd.func4, Tryd.ntmps4
  go_wp2_with (first
    | (refine on 2 ?_; refine wpList_box_blk (w := w) rfl 31 _ rfl (jb Z K A1 n1 c1 A2 n2 c2 A3 n3 c3 pr pk pb pw A n c) rfl ?_; intro w1 q1 g1 z1)
    | (refine on 12 ?_; refine wpList_load_blk (w := w1) rfl 31 _ rfl w.heap.size 42 rfl 31 _ q1 _ Tryd.underlying31 rfl size_job rfl ?_))
  have b1 : Below w.heap.size w w1 := (Below.refl _ w).grown g1 (Nat.le_refl _) (by simp)
  have s1 : w1.heap.size = w.heap.size + 1 := z1.out
  refine (right_any_job w.heap.size Z K A1 n1 c1 x1 A2 n2 c2 x2 A3 n3 c3 x3 pr pk pb pw A n c ps w1 hZ (h1.below b1) (h2.below b1) (h3.below b1) (hp.below b1) hnc hcm (by omega)).mono ?_
  rintro e w2 ⟨B1, B2, B3, m1, d1, m2, d2, m3, d3, y1, y2, y3, r, k, b, wk, A', c', qs, rfl, l1, l2, l3, lp, ⟨f1, f2, f3, fp, hrc, hcm2⟩, hC, hR, hr6, hk2, hb3, hw3, b2⟩
  have q1 := q1.after b2
  have b2 := b1.trans (b2.mono (by omega))
  have s2 := b2.size
  have hl2 := q1.lt
  have hTw := hT.lt
  clear h1 h2 h3 hp
  go_wp2_with (first
    | (refine onS 2 ?_; refine wpList_store_blk (w := w2) rfl 31 _ _ rfl w.heap.size 42 rfl 31 (jb Z K A1 n1 c1 A2 n2 c2 A3 n3 c3 pr pk pb pw A n c) (jb Z (k : Int) B1 m1 d1 B2 m2 d2 B3 m3 d3 (r : Int) (k : Int) (b : Int) (wk : Int) A' r c') rfl q1 size_job rfl rfl (jb_one hZ ..) ?_; intro w3 q1 g3 _; have b3 := b2.grown g3 s2 (fun r e => by cases e; exact Nat.le_refl _); have s3 := g3.size; have lp := (lst_off lp (Nat.le_refl _) g3 (fun h0 b off e => by have := fp h0 b off e; omega)).more s3; have l1 := (lst_off l1 (Nat.le_refl _) g3 (fun h0 b off e => by have := f1 h0 b off e; omega)).more s3; have l2 := (lst_off l2 (Nat.le_refl _) g3 (fun h0 b off e => by have := f2 h0 b off e; omega)).more s3; have l3 := (lst_off l3 (Nat.le_refl _) g3 (fun h0 b off e => by have := f3 h0 b off e; omega)).more s3; have hr37 : w3.rangeAt w.heap.size 37 [.int .i64 (r : Int), .int .i64 (k : Int), .int .i64 (b : Int), .int .i64 (wk : Int)] := blk_range q1 (by rfl))
    | (refine on 16 ?_; refine wpList_run (w := w3) rfl (v := .agg #[.int .i64 (r : Int), .int .i64 (k : Int), .int .i64 (b : Int), .int .i64 (wk : Int)]) (y_load_range (S := fun W => W = w3) (n := 4) (cs := [.int .i64 (r : Int), .int .i64 (k : Int), .int .i64 (b : Int), .int .i64 (wk : Int)]) rfl rfl Tryd.underlying28 rfl size_params rfl (fun W hW => by rw [hW]; exact hr37) _ rfl) ?_))
  refine (blocks_ok (r : Int) (k : Int) (b : Int) (wk : Int) w3 hR).mono ?_
  rintro e w4 ⟨rfl, b4⟩
  have q1 := q1.after b4
  have l1 := (l1.below b4).more b4.size
  have l2 := (l2.below b4).more b4.size
  have l3 := (l3.below b4).more b4.size
  have lp := (lp.below b4).more b4.size
  have b4 := b3.trans (b4.mono (by omega))
  obtain ⟨S, hS1, hS5, hM, hS, hkS⟩ := all_says hR
  obtain ⟨_, _, ⟨hb1, _⟩, _, _⟩ := right_says hR
  have hb1 : 1 ≤ b := by omega
  have hL := cap_of r k b S hb1 hkS
  have hM32 : 2 ^ S ≤ 32 := Nat.pow_le_pow_right (n := 2) (i := S) (by omega) hS5
  have hM1 : 1 ≤ 2 ^ S := Nat.two_pow_pos _
  have HSH := fun nn h1 h2 => stg_shape (nn := nn) hC hb1 lp.1 (by omega) hL l1.2.1 l2.2.1 l3.2.1 lp.2.1 h1 h2
  obtain ⟨T, hTS⟩ : ∃ T, Bi.tri S = T := ⟨_, rfl⟩
  have hT136 : T ≤ 136 := by rw [← hTS]; exact Bi.tri_le (by omega)
  have HRR := Bi.rrounds_any (allI (r : Int) (k : Int) (b : Int)) w4 (by rw [hM]; omega) (by rw [hM]; omega)
  rw [hS, hTS, hM] at HRR
  rw [hTS] at HSH
  have HSG := fun nn X h1 h2 h3 hp hB hT hnn => stage_ok X.heap.size k b S T nn (wk : Int) B1 B2 B3 A' m1 d1 m2 d2 m3 d3 r c' y1 y2 y3 qs X h1 h2 h3 hp hB hC hR hM hS5 hTS hL hT hnn
  rw [hM]
  obtain ⟨N, a, nn, e1, e2, e3, e4, e5, hn1, hn2⟩ := which num T hT136
  have e6 : IntKind.i64.wrap (2 * (T : Int)) = 2 * (T : Int) := by rw [IntKind.wrap_i64]; omega
  have e7 : IntKind.i64.wrap (2 + 2 * (T : Int)) = 2 + 2 * (T : Int) := by rw [IntKind.wrap_i64]; omega
  obtain ⟨M, hMM⟩ : ∃ M, 2 ^ S = M := ⟨_, rfl⟩
  rw [hMM] at HRR HSH HSG hM32 hM1 ⊢
  have hr33 : w4.rangeAt w.heap.size 33 [.int .i64 (k : Int), .slice B1 m1 d1, .slice B2 m2 d2, .slice B3 m3 d3] := blk_range q1 (by rfl)
  have hr37 : w4.rangeAt w.heap.size 37 [.int .i64 (r : Int), .int .i64 (k : Int), .int .i64 (b : Int), .int .i64 (wk : Int)] := blk_range q1 (by rfl)
  have h41 : w4.cell? ⟨w.heap.size, 41, none⟩ = some (.slice A' r c') := q1.cell (i := 41) rfl
  clear hL hkS hMM b1 b2 b3 f1 f2 f3 fp s1 s2 s3 z1 g1 g3 hS hM hl2
  go_wp2_with fail
  refine HRR.mono ?_
  rintro e w5 ⟨rfl, rfl⟩
  go_wp2_with (first
    | (refine on 33 ?_; refine wpList_run (w := w4) rfl (v := .agg #[.int .i64 (k : Int), .slice B1 m1 d1, .slice B2 m2 d2, .slice B3 m3 d3]) (y_load_range (S := fun W => W = w4) (n := 4) (cs := [.int .i64 (k : Int), .slice B1 m1 d1, .slice B2 m2 d2, .slice B3 m3 d3]) rfl rfl Tryd.underlying26 rfl info_prog rfl (fun W hW => by rw [hW]; exact hr33) _ rfl) ?_)
    | (refine on 35 ?_; refine wpList_run (w := w4) rfl (v := .agg #[.int .i64 (r : Int), .int .i64 (k : Int), .int .i64 (b : Int), .int .i64 (wk : Int)]) (y_load_range (S := fun W => W = w4) (n := 4) (cs := [.int .i64 (r : Int), .int .i64 (k : Int), .int .i64 (b : Int), .int .i64 (wk : Int)]) rfl rfl Tryd.underlying28 rfl size_params rfl (fun W hW => by rw [hW]; exact hr37) _ rfl) ?_))
  refine (HSG nn w4 l1 l2 l3 lp (Nat.le_refl _) (hT.below b4 hTw) hn2).mono ?_
  rintro e w6 ⟨V, rfl, hG, b6⟩
  have hHS := HSH nn hn1 hn2
  obtain ⟨vs0, o0, t0⟩ := hG
  generalize stgB (k : Int) y1 y2 y3 qs b M T nn = bs at *
  obtain ⟨hz, hBL, hWF, hfirst, hlast⟩ := hHS
  obtain ⟨A8, n8, c8, rfl, hn8, _⟩ := OwnL.form2 o0
  obtain rfl : n8 = M := by rw [← hn8.out]; exact t0.1.trans hBL
  obtain ⟨g0, rfl, hg00, hg0w, _⟩ := own_at0 o0 (by omega)
  have q1 := q1.after b6
  have b6 := b4.trans (b6.mono (by have := b4.size; omega))
  have had := fun (i : Nat) (hi : i < n8) (W : World) => show (Instr.indexAt 45 (.slice (some ⟨g0, 0, none⟩) n8 c8) (.int .i64 (i : Int))).run Tryd.prog W = .ok (.pointer (some ⟨g0, i, none⟩)) W from by
    have := run_addr_slice (P := Tryd.prog) 45 48 g0 0 n8 c8 i .i64 Tryd.underlying45 (by kernel_rfl) hi W
    rwa [Nat.zero_add] at this
  have HZ := Lib.hid hz
  have HBL := Lib.hid hBL
  have HWF := Lib.hid hWF
  have HFL := Lib.hid (fun i (hi : i ≤ n8) => flat_len hz i (by rw [hBL]; exact hi))
  have HFN := Lib.hid (fun i (hi : i < n8) => flat_next (bs := bs) (i := i) (by rw [hBL]; exact hi))
  have HALL := Lib.hid (show bs.take n8 = bs from List.take_of_length_le (by rw [hBL]; exact Nat.le_refl _))
  have HFI := Lib.hid hfirst
  have HLA := Lib.hid hlast
  have hb8 : b ≤ 8 := by omega
  clear HSH HSG HRR hn8 hz hBL hWF hfirst hlast l1 l2 l3 lp hr33 hr37 h41 hR hC b4 e1 e2 e3 e4 e5 hT e6 e7
  go_wp2_with fail
  refine (awake16_any w6).mono ?_
  rintro e w7 ⟨rfl, b7⟩
  have q1 := q1.after b7
  have o0 := OwnL.below o0 b7
  have t0 := t0.below b7
  have hg7 : g0 < w7.heap.size := by have := b7.size; omega
  have b7 := b6.trans (b7.mono b6.size)
  clear b6
  go_wp2_with fail
  go_loopw [10, 11] (fun fv iv wr => ∃ j : Nat, j ≤ n8 ∧ iv = .int .i64 j ∧ OwnL kRec 51 wr w7.heap.size fv (bs.take j).flatten ∧ Below w7.heap.size w7 wr) (fun _ j _ => n8 - (intOf j).toNat)
  case atStart => exact ⟨0, by omega, rfl, OwnL.nil _ _ _ _, Below.refl _ _⟩
  case round =>
    obtain ⟨j, hj, rfl, ho, hst⟩ := hrel
    have HF0 := Lib.hid (HFL.out j hj)
    have hjz : j * b ≤ 32 * 8 := Nat.mul_le_mul (by omega) hb8
    by_cases hlt : j < n8
    · have hlt' : (j : Int) < (n8 : Int) := by omega
      have had1 := had j hlt
      have HF1 := Lib.hid (HFN.out j hlt)
      have o0W := OwnL.below o0 hst
      have t0W := t0.below hst
      obtain ⟨ca, hgr⟩ := slot_cell o0W hlt
      have oX : OwnL kRec 51 wr w4.heap.size (slV (vs0.getD j kS.d)) (blk bs j) := t0W.2 j (by have := t0W.1; have := HBL.out; omega)
      have hXl : (blk bs j).length = b := HZ.out _ (blk_mem (by rw [HBL.out]; exact hlt))
      have hXw := HWF.out.blk j
      obtain ⟨⟨Ax, nx, cx⟩, hp1⟩ : ∃ p, vs0.getD j kS.d = p := ⟨_, rfl⟩
      rw [hp1] at oX ca
      have lX := OwnL.lst (A := Ax) (n := nx) (c := cx) oX hXw
      obtain rfl : b = nx := hXl.symm.trans lX.1
      have ca2 : wr.cell? ⟨g0, j, none⟩ = some (.slice Ax b cx) := ca
      have q1W := q1.after hst
      have hbz := hst.size
      clear oX hXl hXw hp1 o0W t0W ca
      go_wp2_with fail
      refine wp_region_held (S := fun W => Below wr.heap.size wr W) (by kernel_rfl) ?_
      change wpAnyH _ _ _ _ _ _ _ _ wr.drew
      have c0_0 := (Below.refl wr.heap.size wr).drew
      refine Held.tk (v := .slice (some ⟨g0, 0, none⟩) n8 c8) 0 (some 60) rfl (Held.y_move rfl rfl) c0_0 ?_
      simp only [Act.put, Z1, Z2, Z3]
      refine Held.tk (v := .int .i64 (j : Int)) 1 (some 61) rfl (Held.y_move rfl rfl) c0_0 ?_
      simp only [Act.put, Z1, Z2, Z3]
      refine Held.tk (v := .pointer (some ⟨g0, j, none⟩)) 2 (some 62) rfl (Held.y_addr rfl rfl rfl had1) c0_0 ?_
      simp only [Act.put, Z1, Z2, Z3]
      refine Held.tk (v := .slice Ax b cx) 3 (some 63) rfl (Held.y_load rfl rfl (by kernel_rfl) (fun W hW => (hW.cell (p := ⟨g0, j, none⟩) hgr).trans ca2)) c0_0 ?_
      simp only [Act.put, Z1, Z2, Z3]
      refine Held.tk (v := .int .i64 (b : Int)) 4 (some 64) rfl (Held.y_len rfl rfl Tryd.underlying48) c0_0 ?_
      simp only [Act.put, Z1, Z2, Z3]
      refine Held.tk (v := .pointer (some ⟨w.heap.size, 37, none⟩)) 5 (some 65) rfl (Held.y_field (k := 37) (s := 3) rfl rfl Tryd.underlying31 rfl (by kernel_rfl) rfl) c0_0 ?_
      simp only [Act.put, Z1, Z2, Z3]
      refine Held.tk (v := .pointer (some ⟨w.heap.size, 39, none⟩)) 6 (some 66) rfl (Held.y_field (k := 2) (s := 0) rfl rfl Tryd.underlying28 rfl (by kernel_rfl) rfl) c0_0 ?_
      simp only [Act.put, Z1, Z2, Z3]
      refine Held.tk (v := .int .i64 (b : Int)) 7 (some 67) rfl (Held.y_load rfl rfl (by kernel_rfl) (fun W hW => (q1W.after hW).cell rfl)) c0_0 ?_
      simp only [Act.put, Z1, Z2, Z3]
      refine Held.tk (v := .bool false) 8 (some 68) rfl (Held.y_neI rfl rfl rfl (by simp)) c0_0 ?_
      simp only [Act.put, Z1, Z2, Z3]
      refine wpAnyH_done (by kernel_rfl) ?_ _
      obtain ⟨W2, hW2⟩ : ∃ W, wr.drew = W := ⟨_, rfl⟩
      rw [hW2]
      have d2 : Below wr.heap.size wr W2 := hW2 ▸ (Below.refl wr.heap.size wr).drew
      have cW : W2.cell? ⟨g0, j, none⟩ = some (.slice Ax b cx) := (d2.cell (p := ⟨g0, j, none⟩) hgr).trans ca2
      have lX := lX.below d2
      have ho := OwnL.below ho d2
      have d3 := hst.trans (d2.mono hbz)
      have hbz2 := d3.size
      have lXs := d2.size
      clear hW2 ca2
      go_wp2_with (first
        | (refine on 72 ?_; refine wpList_run (w := W2) rfl (v := .pointer (some ⟨g0, j, none⟩)) (Held.y_addr (S := fun _ => True) rfl rfl rfl had1 _ trivial) ?_)
        | (refine on 74 ?_; refine wpList_append_all (k := kRec) (w := W2) rfl _ _ 48 51 rfl Tryd.underlying48 _ 32 info_kRec rfl w7.heap.size wr.heap.size b cx Ax u10 _ (blk bs j) rfl rfl ho lX (by rw [HF0.out]; omega) (by omega) hbz2 ?_; intro v2 w2 o2 g2 me2))
      rw [← HF1.out] at o2
      have b2 : Below w7.heap.size w7 w2 := d3.grown g2 hbz2 (fun r e => (OwnL.lt ho r e).1)
      go_roundw
      case rel => exact ⟨j + 1, by omega, by go_num, o2, b2⟩
      case measure => simp [intOf]; omega
    · obtain rfl : j = n8 := by omega
      rw [HALL.out] at ho HF0
      have e6 : IntKind.i64.wrap (2 * (T : Int)) = 2 * (T : Int) := by rw [IntKind.wrap_i64]; omega
      have e7 : IntKind.i64.wrap (2 + 2 * (T : Int)) = 2 + 2 * (T : Int) := by rw [IntKind.wrap_i64]; omega
      have e8 : IntKind.i64.wrap (1 + (T : Int)) = 1 + (T : Int) := by rw [IntKind.wrap_i64]; omega
      obtain ⟨Af, nf, cf, rfl, hnf, _⟩ := OwnL.form2 ho
      have hFw := wf_iff.1 HWF.out
      generalize bs.flatten = F at *
      have hnfL : nf = j * b := by rw [← hnf.out]; exact HF0.out
      have hnf1 : 1 ≤ nf := by rw [hnfL]; exact Nat.mul_pos (by omega) hb1
      have hnf2 : nf ≤ 256 := by omega
      have lF := OwnL.lst ho hFw
      obtain ⟨b0, off, rfl, hb0, hx⟩ := lF.at_ (i := nf - 1) (by omega)
      have hbz := hst.size
      have b9 := b7.trans (hst.mono (by have := b7.size; omega))
      have HT1 := Lib.hid (show T ≤ 136 from hT136)
      have hw9 : w.heap.size ≤ wr.heap.size := b9.size
      clear hnfL hjz HF0 HFL HFN HALL had o0 t0 hnf HZ HBL HWF hFw hst b7
      have e9 : IntKind.i64.wrap ((nf : Int) - 1) = ((nf - 1 : Nat) : Int) := by rw [IntKind.wrap_i64]; omega
      by_cases hA : nn = 1 + T
      · obtain ⟨hS, hd⟩ := HFI.out hA
        have hdl : (F.getD (nf - 1) kRec.d).d = true := by
          refine hd _ ?_
          rw [List.getLast?_eq_getElem?, lF.1, List.getD_eq_getElem?_getD, List.getElem?_eq_getElem (by rw [lF.1]; omega)]
          rfl
        have cl : wr.cell? ⟨b0, off + (nf - 1) * 4, none⟩ = some (.bool true) := by
          have := hx 0 (.bool (F.getD (nf - 1) kRec.d).d) rfl
          rw [hdl] at this
          exact this
        have hdA : decide ((nn : Int) = 1 + (T : Int)) = true := by simp; omega
        have hdN : decide ((nn : Int) ≠ 2 + 2 * (T : Int)) = true := by simp; omega
        have E6 := Lib.hid e6
        have E7 := Lib.hid e7
        have E8 := Lib.hid e8
        have E9 := Lib.hid e9
        have HD := Lib.hid hdA
        have HN := Lib.hid hdN
        have HSo := Lib.hid hS
        clear e6 e7 e8 e9 hdA hdN hA hS hd hdl hx
        go_wp2_with (first
          | (refine on 77 ?_; refine wpList_run (w := wr) rfl (v := .int .i64 (1 + (T : Int))) (Held.y_int (S := fun _ => True) rfl rfl rfl (Held.run_add 3 .i64 E8.out) _ trivial) ?_)
          | (refine on 78 ?_; refine wpList_run (w := wr) rfl (v := .bool true) (Held.y_eqI (S := fun _ => True) rfl rfl rfl HD.out _ trivial) ?_))
        refine (rsorted_any wr.heap.size _ nf cf F true wr lF (Nat.le_refl _) (by omega)).mono ?_
        rintro e w8 ⟨rfl, b8⟩
        rw [HSo.out]
        have c0 : w8.cell? ⟨b0, off + (nf - 1) * 4, none⟩ = some (.bool true) := (b8.cell (p := ⟨b0, off + (nf - 1) * 4, none⟩) hb0).trans cl
        have b8 := b9.trans (b8.mono hw9)
        clear cl lF ho
        go_wp2_with (first
          | (refine on 87 ?_; refine wpList_run (w := w8) rfl (v := .int .i64 ((nf - 1 : Nat) : Int)) (Held.y_int (S := fun _ => True) rfl rfl rfl (Held.run_sub 3 .i64 E9.out) _ trivial) ?_)
          | (refine on 88 ?_; refine wpList_run (w := w8) rfl (v := .pointer (some ⟨b0, off + (nf - 1) * 4, none⟩)) (Held.y_addr (S := fun _ => True) rfl rfl rfl (run_addr_of 48 51 b0 off nf cf (nf - 1) 4 .i64 Tryd.underlying48 (by kernel_rfl) (by omega)) _ trivial) ?_)
          | (refine on 89 ?_; refine wpList_run (w := w8) rfl (v := .pointer (some ⟨b0, off + (nf - 1) * 4, none⟩)) (Held.y_field (S := fun _ => True) (k := 0) (s := 0) rfl rfl Tryd.underlying51 rfl (by kernel_rfl) rfl _ trivial) ?_)
          | (refine on 96 ?_; refine wpList_run (w := w8) rfl (v := .int .i64 (2 * (T : Int))) (Held.y_int (S := fun _ => True) rfl rfl rfl (Held.run_mul 3 .i64 E6.out) _ trivial) ?_)
          | (refine on 97 ?_; refine wpList_run (w := w8) rfl (v := .int .i64 (2 + 2 * (T : Int))) (Held.y_int (S := fun _ => True) rfl rfl rfl (Held.run_add 3 .i64 E7.out) _ trivial) ?_)
          | (refine on 98 ?_; refine wpList_run (w := w8) rfl (v := .bool true) (Held.y_neI (S := fun _ => True) rfl rfl rfl HN.out _ trivial) ?_))
        go_ret
        exact ⟨rfl, b8⟩
      · have hdA : decide ((nn : Int) = 1 + (T : Int)) = false := by simp; omega
        have E6 := Lib.hid e6
        have E7 := Lib.hid e7
        have E8 := Lib.hid e8
        have HD := Lib.hid hdA
        clear e6 e7 e8 e9 hdA hA hx
        by_cases hB : nn = 2 + 2 * T
        · have hdN : decide ((nn : Int) ≠ 2 + 2 * (T : Int)) = false := by simp; omega
          have HN := Lib.hid hdN
          have HSo := Lib.hid (HLA.out hB)
          clear hdN hB
          go_wp2_with (first
          | (refine on 77 ?_; refine wpList_run (w := wr) rfl (v := .int .i64 (1 + (T : Int))) (Held.y_int (S := fun _ => True) rfl rfl rfl (Held.run_add 3 .i64 E8.out) _ trivial) ?_)
          | (refine on 78 ?_; refine wpList_run (w := wr) rfl (v := .bool false) (Held.y_eqI (S := fun _ => True) rfl rfl rfl HD.out _ trivial) ?_)
          | (refine on 96 ?_; refine wpList_run (w := wr) rfl (v := .int .i64 (2 * (T : Int))) (Held.y_int (S := fun _ => True) rfl rfl rfl (Held.run_mul 3 .i64 E6.out) _ trivial) ?_)
          | (refine on 97 ?_; refine wpList_run (w := wr) rfl (v := .int .i64 (2 + 2 * (T : Int))) (Held.y_int (S := fun _ => True) rfl rfl rfl (Held.run_add 3 .i64 E7.out) _ trivial) ?_)
          | (refine on 98 ?_; refine wpList_run (w := wr) rfl (v := .bool false) (Held.y_neI (S := fun _ => True) rfl rfl rfl HN.out _ trivial) ?_))
          refine (rsorted_any wr.heap.size _ nf cf F false wr lF (Nat.le_refl _) (by omega)).mono ?_
          rintro e w8 ⟨rfl, b8⟩
          rw [HSo.out]
          have b8 := b9.trans (b8.mono hw9)
          go_wp2_with fail
          go_ret
          exact ⟨rfl, b8⟩
        · have hdN : decide ((nn : Int) ≠ 2 + 2 * (T : Int)) = true := by simp; omega
          have HN := Lib.hid hdN
          clear hdN hB
          go_wp2_with (first
          | (refine on 77 ?_; refine wpList_run (w := wr) rfl (v := .int .i64 (1 + (T : Int))) (Held.y_int (S := fun _ => True) rfl rfl rfl (Held.run_add 3 .i64 E8.out) _ trivial) ?_)
          | (refine on 78 ?_; refine wpList_run (w := wr) rfl (v := .bool false) (Held.y_eqI (S := fun _ => True) rfl rfl rfl HD.out _ trivial) ?_)
          | (refine on 96 ?_; refine wpList_run (w := wr) rfl (v := .int .i64 (2 * (T : Int))) (Held.y_int (S := fun _ => True) rfl rfl rfl (Held.run_mul 3 .i64 E6.out) _ trivial) ?_)
          | (refine on 97 ?_; refine wpList_run (w := wr) rfl (v := .int .i64 (2 + 2 * (T : Int))) (Held.y_int (S := fun _ => True) rfl rfl rfl (Held.run_add 3 .i64 E7.out) _ trivial) ?_)
          | (refine on 98 ?_; refine wpList_run (w := wr) rfl (v := .bool true) (Held.y_neI (S := fun _ => True) rfl rfl rfl HN.out _ trivial) ?_))
          go_ret
          exact ⟨rfl, b9⟩
theorem walk (Z0 : Nat → Value) (K0 : Int) (Aa0 : Option Addr) (na0 ca0 : Nat) (xa0 : List Vm.O) (Ab0 : Option Addr) (nb0 cb0 : Nat) (xb0 : List Vm.O) (Ac0 : Option Addr) (nc0 cc0 : Nat) (xc0 : List Vm.O) (pr0 pk0 pb0 pw0 : Int) (A0 : Option Addr) (n0 c0 : Nat) (ps0 : List (Int × Int)) (a1 : Int) (w : World) (hZ0 : Pi.Zok Z0) (ha0 : Sl.Lst Vm.kO w w.heap.size Aa0 na0 xa0) (hb0 : Sl.Lst Vm.kO w w.heap.size Ab0 nb0 xb0) (hc0 : Sl.Lst Vm.kO w w.heap.size Ac0 nc0 xc0) (hp0 : Sl.Lst Sp.kP w w.heap.size A0 n0 ps0) (hnc0 : n0 ≤ c0) (hcm0 : c0 ≤ maxLen) (w1 : (Lit.int .i64 a1).wf = true) (hL : laidMetH Tryd.prog laidList w) :
    Calls Tryd.prog 4 #[.agg (Pi.jb Z0 K0 Aa0 na0 ca0 Ab0 nb0 cb0 Ac0 nc0 cc0 pr0 pk0 pb0 pw0 A0 n0 c0), .int .i64 a1] w fun e w' => e = .returned (.bool true) ∧ Below w.heap.size w w' := by
  exact start Z0 K0 Aa0 na0 ca0 xa0 Ab0 nb0 cb0 xb0 Ac0 nc0 cc0 xc0 pr0 pk0 pb0 pw0 A0 n0 c0 ps0 a1 w hZ0 ha0 hb0 hc0 hp0 hnc0 hcm0 (Bi.bits_of_laid hL)
set_option maxRecDepth 100000 in
theorem door_met (os : Os) (args : Array Value) : laidMetH Tryd.prog laidList ((World.doorLaid Tryd.prog 400 os).forCall (fun _ _ => 0) ⟨#[], args, []⟩).memory :=
  laidMetH_of_parts3 (fuel := 8) (laidMet_of_run' 8 (by kernel_rfl) (by kernel_rfl)) (by kernel_rfl) (by kernel_rfl)
set_option maxRecDepth 100000 in
theorem lifted (os : Os) (started : os.Started) (H : Type) (enc : TypeId × Value → H) :
    ReturnsInHanded {} Tryd.checked os 4 .any (fun w args => (Rows.pipeShapeSpec.pre enc Tryd.prog Tryd.f4 [] false w args ∧ laidMetH Tryd.prog laidList w) ∧ sizedMet enc Tryd.prog Tryd.f4 (OpenSpec.ofChange Rows.pipeShapeSpec) false w args)
      (Rows.pipeShapeSpec.post enc Tryd.prog Tryd.f4 false true false false) := by
  refine returnsInHanded_of_change_and (C := Tryd.checked) (X := fun w _ => laidMetH Tryd.prog laidList w) (fun _ _ _ hh h => h.of_heap hh) own started (by kernel_rfl) Tryd.func4
    (ChangeSpec.witness_shaped (enc := enc) (C := Tryd.checked) (os := os) (X := fun w _ => laidMetH Tryd.prog laidList w) false (World.doorLaid Tryd.prog 400 os) #[.agg #[.int .u8 0, .int .u8 0, .int .u8 0, .int .u8 0, .int .u8 0, .int .u8 0, .int .u8 0, .int .u8 0, .int .u8 0, .int .u8 0, .int .u8 0, .int .u8 0, .int .u8 0, .int .u8 0, .int .u8 0, .int .u8 0, .int .u8 0, .int .u8 0, .int .u8 0, .int .u8 0, .int .u8 0, .int .u8 0, .int .u8 0, .int .u8 0, .int .u8 0, .int .u8 0, .int .u8 0, .int .u8 0, .int .u8 0, .int .u8 0, .int .u8 0, .int .u8 0, .int .u64 0, .int .i64 0, .slice none 0 0, .slice none 0 0, .slice none 0 0, .int .i64 0, .int .i64 0, .int .i64 0, .int .i64 0, .slice none 0 0], .int .i64 0] 8 rfl (World.shaped_of_RefB (by kernel_rfl) (by kernel_rfl)) (by kernel_rfl) (by kernel_rfl) (by kernel_rfl) (door_met os _)) ?_
  intro W base args ds gs before hval0 hW _ _ hL _
  have hval : ∀ (j : Nat) t v, Tryd.f4.params[j]? = some t → args[j]? = some v → Value.okWide Tryd.prog W .any base t v := hval0
  have hW' := hW
  obtain ⟨p, q, hA0, hV, rfl, hfz, hnd⟩ := hW
  have hA : DataW.TrodAll enc Tryd.prog W 0 (fun _ => true) true Tryd.f4.params.toList args.toList ds p := hA0
  rw [Tryd.params4] at hA hval
  obtain ⟨v0, vs0, d0, ds0, p0, q0, hargs, rfl, rfl, h0, r0⟩ := trodAll_cons hA
  obtain ⟨v1, vs1, d1, ds1, p1, q1, rfl, rfl, rfl, h1, r1⟩ := trodAll_cons r0
  obtain ⟨rfl, rfl, rfl⟩ := trodAll_nil r1
  obtain rfl : args = #[v0, v1] := by cases args; simp_all
  obtain ⟨rfl, rfl⟩ := trodVars_none hV
  have kk0 := h0
  have lt0 : ∀ x ∈ p0, x.block < W.heap.size := by obtain ⟨m, hm⟩ := kk0; exact DataW.trod_lt m _ _ _ hm
  obtain ⟨Z0, K0, Aa0, na0, ca0, xa0, Ab0, nb0, cb0, xb0, Ac0, nc0, cc0, xc0, pr0, pk0, pb0, pw0, A0, n0, c0, ps0, rfl, hZ0, wK0, ha0, hb0, hc0, wp0, hp0⟩ := Pi.open_job (hval 0 31 v0 rfl rfl) h0
  obtain ⟨a1, rfl, rfl, rfl, w1⟩ := open_int Tryd.underlying3 (hval 1 3 v1 rfl rfl) h1
  clear hA0 hval0
  refine (walk Z0 K0 Aa0 na0 ca0 xa0 Ab0 nb0 cb0 xb0 Ac0 nc0 cc0 xc0 pr0 pk0 pb0 pw0 A0 n0 c0 ps0 a1 W hZ0 ha0.1 hb0.1 hc0.1 hp0.1 hp0.2.1 hp0.2.2 w1 hL).mono fun e W' ⟨he, bel⟩ => ?_
  subst he
  exact ⟨_, rfl, _, _, _, [], _, [], hW', trodAll_mk1 (shut_bool Tryd.underlying4 _), (trodAll_cons_mk (Below.trod laidOut (by kernel_rfl) (of_decide_eq_true (by kernel_rfl)) kk0 bel lt0) (trodAll_cons_mk (shut_int Tryd.underlying3 w1) trodAll_mk0)), rfl, bel.frame _, fun h => by cases h⟩
theorem over : Rows.pipeShapeRow.holds Tryd.pinned (OpenSpec.ofChange Rows.pipeShapeSpec) :=
  OpenClaim.holds_of_wide 4 Tryd.f4 rfl rfl rfl rfl rfl rfl rfl ⟨rfl, rfl, rfl, rfl, rfl⟩ rfl rfl rfl rfl rfl (by kernel_rfl) Tryd.func4 (by kernel_rfl)
    (of_decide_eq_true (by kernel_rfl)) (by unfold Func.isWrapper; first | (rw [if_pos (by decide +kernel)]; kernel_rfl) | (rw [if_neg (by decide +kernel)]; exact ⟨rfl, rfl⟩))
    (fun os started H enc _ => lifted os started H enc)
theorem proved : Rows.PipeShapeCardSaid :=
  Claim7.holds_tied_plain_at .later [] [.data, .data] true (true, "a149d18c0653b1648f16848b2da2c696ebc66272bb5a5a3ee711bd8e17f0b6c7") false
    over (fun _ h => by cases h) (by kernel_rfl) (fun _ h => by cases h) pipeShape_row_tie rfl ⟨rfl, rfl⟩ (by kernel_rfl) rfl
    (fun f fn hf hfn => by
      obtain rfl : f = 4 := Option.some.inj ((show Tryd.prog.funcNamed "domino/dominolaw16.PipeShape" = some 4 by kernel_rfl).symm.trans hf) |>.symm
      obtain rfl : fn = Tryd.f4 := (Option.some.inj (Tryd.func4.symm.trans hfn)).symm
      exact ⟨by kernel_rfl, fun j t ht => by
        rw [Tryd.params4] at ht
        have hm : t ∈ [31, 3] := by simpa using Array.mem_of_getElem? ht
        have hall : ([31, 3].all fun u => !Tryd.prog.wantsStandIn u) = true := by kernel_rfl
        exact (show Tryd.prog.wantsStandIn t = false by simpa using List.all_eq_true.1 hall t hm)⟩)
    (by kernel_rfl)
#print axioms proved
end Go.Proofs.YtlinmcgmkpkpaaaDoor.pipeShape
