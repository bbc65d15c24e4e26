/-
  The law PipeSizes of package dominolaw16 returns true for every job and every other size of a block: how records are cut into blocks plays no part in what comes out; how many blocks there are hangs on the public numbers alone.
-/
import Derived.Test.YtlinmcgmkpkpaaaDoorRows
import Derived.Test.YtlinmcgmkpkpaaaDoorCards
import Derived.Test.YtlinmcgmkpkpaaaDoorTie
import Derived.SevenTiedAt
import Derived.WalkKit
import Derived.ProofKit
import Derived.OpenShut
import Derived.ShutString
import Derived.ChangeOld
import Derived.Below
import Derived.LaidMore
import Derived.Stop.Joined
import Derived.Test.YtlinmcgmkpkpaaaDoorB22
namespace Go.Proofs.YtlinmcgmkpkpaaaDoor.pipeSizes
open Go.ChangeShapes Go.WideShapes Go.ChangeAt Go.RowKit
open Go.ChangeMaps (open_string shut_string)
open Go.Shelf Go.Proofs.YtlinmcgmkpkpaaaDoor Mem Held Ct Rc Rs Sl Vm Sp Mg Go.Proofs.YtlinmcgmkpkpaaaDoor.Pi
theorem own : ownKnob Tryd.prog.godebug = none := by kernel_rfl
theorem laidOut : laidOutB Tryd.prog = true := by kernel_rfl
def laidList : List (String × DataW Unit) := [("math/bits.deBruijn32tab", Rows.laid_math_bits_deBruijn32tab), ("math/bits.deBruijn64tab", Rows.laid_math_bits_deBruijn64tab)]
attribute [local irreducible] wpList wpListIn Calls
attribute [local go_sem] Oper.semAt_some
theorem other (x : Int) : ∃ (N : Int) (a b2 : Nat), IntKind.u64.wrap x = N ∧ N.tmod 8 = (a : Int) ∧ IntKind.i64.wrap (a : Int) = (a : Int) ∧ IntKind.i64.wrap (1 + (a : Int)) = (b2 : Int) ∧ 1 ≤ b2 ∧ b2 ≤ 8 := by
  obtain ⟨N, hN⟩ : ∃ N : Int, IntKind.u64.wrap x = N := ⟨_, rfl⟩
  have hN0 : 0 ≤ N := by rw [← hN, IntKind.wrap_u64]; omega
  refine ⟨N, (N % 8).toNat, (N % 8).toNat + 1, hN, ?_, ?_, ?_, by omega, by omega⟩
  · rw [Int.tmod_eq_emod_of_nonneg hN0]; omega
  · rw [IntKind.wrap_i64]; omega
  · rw [IntKind.wrap_i64]; omega
theorem other_right {r k b wk : Nat} (hr1 : 1 ≤ r) (hr : r ≤ 6) (hk1 : 1 ≤ k) (hk : k ≤ 2) (hb1 : 1 ≤ b) (hb : b ≤ 8) (hw1 : 1 ≤ wk) (hw : wk ≤ 3) : rightB (r : Int) (k : Int) (b : Int) (wk : Int) = true := by
  have h1 : ((r : Int) + (b : Int) - 1) / (b : Int) < 7 := by rw [Int.ediv_lt_iff_lt_mul (by omega)]; omega
  have h0 : 0 ≤ ((r : Int) + (b : Int) - 1) / (b : Int) := Int.ediv_nonneg (by omega) (by omega)
  have h2 : (k : Int) * (((r : Int) + (b : Int) - 1) / (b : Int)) ≤ 2 * 6 := Int.mul_le_mul (by omega) (by omega) h0 (by omega)
  simp only [rightB, Bool.and_eq_true, decide_eq_true_eq]
  omega
theorem cut_says (r k b : Nat) (hr1 : 1 ≤ r) (hr : r ≤ 6) (hk : k ≤ 2) (hb1 : 1 ≤ b) (hb : b ≤ 8) (h2 : 1 ≤ inI r b) : ∃ q, inI r b = q ∧ 1 ≤ q ∧ q ≤ 6 ∧ (r : Int) ≤ q * b ∧ (q - 1) * b < r ∧ q * b ≤ 48 ∧ 0 ≤ (q - 1) * b ∧ 0 ≤ q * k ∧ q * k ≤ 12 := by
  refine ⟨_, rfl, h2, ?_, ?_, ?_, ?_, ?_, ?_, ?_⟩
  all_goals unfold inI at *
  all_goals
    have h1 := Int.mul_ediv_add_emod ((r : Int) + b - 1) b
    have h3 := Int.emod_lt_of_pos ((r : Int) + b - 1) (show (0 : Int) < b by omega)
    have h4 := Int.emod_nonneg ((r : Int) + b - 1) (show (b : Int) ≠ 0 by omega)
    have h6 : ((r : Int) + b - 1) / b < 7 := by rw [Int.ediv_lt_iff_lt_mul (by omega)]; omega
    generalize ((r : Int) + b - 1) / b = q at *
    rw [Int.mul_comm] at h1
    have h7 : q * b ≤ 6 * 8 := Int.mul_le_mul (by omega) (by omega) (by omega) (by omega)
    have h8 : (q - 1) * b = q * b - b := by rw [Int.sub_mul, Int.one_mul]
    have h9 : 0 ≤ (q - 1) * b := Int.mul_nonneg (by omega) (by omega)
    have hx : q * k ≤ 6 * 2 := Int.mul_le_mul (by omega) (by omega) (by omega) (by omega)
    have hy : 0 ≤ q * k := Int.mul_nonneg (by omega) (by omega)
    omega
theorem pow_and : ∀ S : Nat, S ≤ 5 → bits .and .i64 ((2 ^ S : Nat) : Int) ((2 ^ S : Nat) - 1 : Int) = 0 := fun S h => by
  rcases (show S = 0 ∨ S = 1 ∨ S = 2 ∨ S = 3 ∨ S = 4 ∨ S = 5 by omega) with rfl | rfl | rfl | rfl | rfl | rfl <;> decide +kernel
theorem par_zero : (Tryd.prog.info? 28).bind (·.zero) = some (.agg #[.int .i64 0, .int .i64 0, .int .i64 0, .int .i64 0]) := by kernel_rfl
set_option maxRecDepth 100000 in
set_option maxHeartbeats 16000000 in
theorem start (Z : Nat → Value) (K : Int) (A1 : Option Addr) (n1 c1 : Nat) (x1 : List O) (A2 : Option Addr) (n2 c2 : Nat) (x2 : List O) (A3 : Option Addr) (n3 c3 : Nat) (x3 : List O) (pr pk pb pw : Int) (A : Option Addr) (n c : Nat) (ps : List (Int × Int)) (num : Int) (w : World) (hZ : Zok Z)
    (h1 : Lst kO w w.heap.size A1 n1 x1) (h2 : Lst kO w w.heap.size A2 n2 x2) (h3 : Lst kO w w.heap.size A3 n3 x3) (hp : Lst kP w w.heap.size A n ps) (hnc : n ≤ c) (hcm : c ≤ maxLen) (hT : Bi.TzT w) :
    Calls Tryd.prog 6 #[.agg (jb Z K A1 n1 c1 A2 n2 c2 A3 n3 c3 pr pk pb pw A n c), .int .i64 num] w fun e w' => e = .returned (.bool true) ∧ Below w.heap.size w w' := by
  obtain ⟨N, a, b2, e1, e2, e3, e4, hc1, hc8⟩ := other num
  go_enter Tryd.func6, Tryd.ntmps6
  go_wp2_with (first
    | (refine on 2 ?_; refine wpList_box_blk (w := w) rfl 31 _ rfl (jb Z K A1 n1 c1 A2 n2 c2 A3 n3 c3 pr pk pb pw A n c) rfl ?_; intro w1 q1 g1 z1)
    | (refine on 12 ?_; refine wpList_load_blk (w := w1) rfl 31 _ rfl w.heap.size 42 rfl 31 _ q1 _ Tryd.underlying31 rfl size_job rfl ?_))
  have b1 : Below w.heap.size w w1 := (Below.refl _ w).grown g1 (Nat.le_refl _) (by simp)
  have s1 : w1.heap.size = w.heap.size + 1 := z1.out
  refine (right_any_job w.heap.size Z K A1 n1 c1 x1 A2 n2 c2 x2 A3 n3 c3 x3 pr pk pb pw A n c ps w1 hZ (h1.below b1) (h2.below b1) (h3.below b1) (hp.below b1) hnc hcm (by omega)).mono ?_
  rintro e w2 ⟨B1, B2, B3, m1, d1, m2, d2, m3, d3, y1, y2, y3, r, k, b, wk, A', c', qs, rfl, l1, l2, l3, lp, ⟨f1, f2, f3, fp, hrc, hcm2⟩, hC, hR, hr6, hk2, hb3, hw3, b2'⟩
  have q1 := q1.after b2'
  have b2' := b1.trans (b2'.mono (by omega))
  have s2 := b2'.size
  have hl2 := q1.lt
  have hTw := hT.lt
  clear h1 h2 h3 hp
  go_wp2_with (first
    | (refine onS 2 ?_; refine wpList_store_blk (w := w2) rfl 31 _ _ rfl w.heap.size 42 rfl 31 (jb Z K A1 n1 c1 A2 n2 c2 A3 n3 c3 pr pk pb pw A n c) (jb Z (k : Int) B1 m1 d1 B2 m2 d2 B3 m3 d3 (r : Int) (k : Int) (b : Int) (wk : Int) A' r c') rfl q1 size_job rfl rfl (jb_one hZ ..) ?_; intro w3 q1 g3 _; have b3 := b2'.grown g3 s2 (fun r e => by cases e; exact Nat.le_refl _); have s3 := g3.size; have lp := (lst_off lp (Nat.le_refl _) g3 (fun h0 b off e => by have := fp h0 b off e; omega)).more s3; have l1 := (lst_off l1 (Nat.le_refl _) g3 (fun h0 b off e => by have := f1 h0 b off e; omega)).more s3; have l2 := (lst_off l2 (Nat.le_refl _) g3 (fun h0 b off e => by have := f2 h0 b off e; omega)).more s3; have l3 := (lst_off l3 (Nat.le_refl _) g3 (fun h0 b off e => by have := f3 h0 b off e; omega)).more s3; have hr37 : w3.rangeAt w.heap.size 37 [.int .i64 (r : Int), .int .i64 (k : Int), .int .i64 (b : Int), .int .i64 (wk : Int)] := blk_range q1 (by rfl))
    | (refine on 15 ?_; refine wpList_run (w := w3) rfl (v := .agg #[.int .i64 (r : Int), .int .i64 (k : Int), .int .i64 (b : Int), .int .i64 (wk : Int)]) (y_load_range (S := fun W => W = w3) (n := 4) (cs := [.int .i64 (r : Int), .int .i64 (k : Int), .int .i64 (b : Int), .int .i64 (wk : Int)]) rfl rfl Tryd.underlying28 rfl size_params rfl (fun W hW => by rw [hW]; exact hr37) _ rfl) ?_)
    | (refine on 5 ?_; refine wpList_alloc_blk (w := w3) rfl 28 rfl _ par_zero ?_; intro w4 q4 g4 z4; have q1 := q1.grown g4 (by simp); have s4 : w4.heap.size = w3.heap.size + 1 := z4.out; have b4 := b3.grown g4 (by omega) (by simp))
    | (refine onS 5 ?_; refine wpList_store_blk (w := w4) rfl 28 _ _ rfl w3.heap.size 4 rfl 28 _ #[.int .i64 (r : Int), .int .i64 (k : Int), .int .i64 (b : Int), .int .i64 (wk : Int)] rfl q4 size_params rfl rfl (by kernel_rfl) ?_; intro w5 q4 g5 _; have q1 := q1.grown g5 (by intro e; injection e with e; omega); have b5 := b4.grown g5 (by omega) (fun r e => by cases e; omega); have s5 := g5.size)
    | (refine onS 21 ?_; refine wpList_store_field (w := w5) rfl 3 _ _ rfl w3.heap.size 2 rfl 28 #[.int .i64 (r : Int), .int .i64 (k : Int), .int .i64 (b : Int), .int .i64 (wk : Int)] (.int .i64 (b2 : Int)) rfl q4 (by simp) (by kernel_rfl) rfl rfl ?_; intro w6 q4 g6 _; have q1 := q1.grown g6 (by intro e; injection e with e; omega); have b6 := b5.grown g6 (by omega) (fun r e => by cases e; omega); have s6 := g6.size; have q4 : Blk w6 w3.heap.size 28 #[.int .i64 (r : Int), .int .i64 (k : Int), .int .i64 (b2 : Int), .int .i64 (wk : Int)] := q4)
    | (refine on 22 ?_; refine wpList_load_blk (w := w6) rfl 28 _ rfl w3.heap.size 4 rfl 28 _ q4 _ Tryd.underlying28 rfl size_params rfl ?_))
  obtain ⟨⟨hr1, _⟩, ⟨hk1, _⟩, ⟨hb1, _⟩, _, _⟩ := right_says hR
  have hwk1 : 1 ≤ wk := by
    rw [rightB_of] at hR
    simp only [Bool.and_eq_true, decide_eq_true_eq] at hR
    have := (inB_says hR.1.2).1
    omega
  have hR2 : rightB (r : Int) (k : Int) (b2 : Int) (wk : Int) = true := other_right (by omega) hr6 (by omega) hk2 hc1 hc8 hwk1 hw3
  refine (rright_ok (r : Int) (k : Int) (b2 : Int) (wk : Int) w6 hR2).mono ?_
  rintro e w7 ⟨rfl, b7⟩
  have q1 := q1.after b7
  have q4 := q4.after b7
  have c6 : Below w3.heap.size w3 w6 := (((Below.refl _ _).grown g4 (Nat.le_refl _) (by simp)).grown g5 (by omega) (fun r e => by cases e; exact Nat.le_refl _)).grown g6 (by omega) (fun r e => by cases e; exact Nat.le_refl _)
  have c7 := c6.trans (b7.mono (by omega))
  have l1 := (l1.below c7).more c7.size
  have l2 := (l2.below c7).more c7.size
  have l3 := (l3.below c7).more c7.size
  have lp := (lp.below c7).more c7.size
  have b7 := b6.trans (b7.mono (by omega))
  have hr33 : w7.rangeAt w.heap.size 33 [.int .i64 (k : Int), .slice B1 m1 d1, .slice B2 m2 d2, .slice B3 m3 d3] := blk_range q1 (by rfl)
  have hr37 : w7.rangeAt w.heap.size 37 [.int .i64 (r : Int), .int .i64 (k : Int), .int .i64 (b : Int), .int .i64 (wk : Int)] := blk_range q1 (by rfl)
  have h41 : w7.cell? ⟨w.heap.size, 41, none⟩ = some (.slice A' r c') := q1.cell (i := 41) rfl
  have s7 : w.heap.size < w7.heap.size := q1.lt
  have s7' := q4.lt
  clear c6 c7 b3 b4 b5 b6 g3 g4 g5 g6 s2 s3 s4 s5 s6 z1 z4 f1 f2 f3 fp e1 e2 e3 e4
  go_wp2_with (first
    | (refine on 28 ?_; refine wpList_run (w := w7) rfl (v := .agg #[.int .i64 (k : Int), .slice B1 m1 d1, .slice B2 m2 d2, .slice B3 m3 d3]) (y_load_range (S := fun W => W = w7) (n := 4) (cs := [.int .i64 (k : Int), .slice B1 m1 d1, .slice B2 m2 d2, .slice B3 m3 d3]) rfl rfl Tryd.underlying26 rfl info_prog rfl (fun W hW => by rw [hW]; exact hr33) _ rfl) ?_)
    | (refine on 30 ?_; refine wpList_run (w := w7) rfl (v := .agg #[.int .i64 (r : Int), .int .i64 (k : Int), .int .i64 (b : Int), .int .i64 (wk : Int)]) (y_load_range (S := fun W => W = w7) (n := 4) (cs := [.int .i64 (r : Int), .int .i64 (k : Int), .int .i64 (b : Int), .int .i64 (wk : Int)]) rfl rfl Tryd.underlying28 rfl size_params rfl (fun W hW => by rw [hW]; exact hr37) _ rfl) ?_))
  refine (run_told2 w7.heap.size k b r (wk : Int) B1 B2 B3 A' m1 d1 m2 d2 m3 d3 c' y1 y2 y3 qs w7 l1 l2 l3 lp (Nat.le_refl _) hC hR (hT.below b7 hTw)).mono ?_
  rintro e w8 ⟨v1, X1, rfl, o1, p1, t1, x1l, b8⟩
  have q1 := q1.after b8
  have q4 := q4.after b8
  have l1 := (l1.below b8).more b8.size
  have l2 := (l2.below b8).more b8.size
  have l3 := (l3.below b8).more b8.size
  have lp := (lp.below b8).more b8.size
  have b8 := b7.trans (b8.mono (by omega))
  have hr33 : w8.rangeAt w.heap.size 33 [.int .i64 (k : Int), .slice B1 m1 d1, .slice B2 m2 d2, .slice B3 m3 d3] := blk_range q1 (by rfl)
  have h41 : w8.cell? ⟨w.heap.size, 41, none⟩ = some (.slice A' r c') := q1.cell (i := 41) rfl
  have s8 : w.heap.size < w8.heap.size := q1.lt
  go_wp2_with (first
    | (refine on 38 ?_; refine wpList_run (w := w8) rfl (v := .agg #[.int .i64 (k : Int), .slice B1 m1 d1, .slice B2 m2 d2, .slice B3 m3 d3]) (y_load_range (S := fun W => W = w8) (n := 4) (cs := [.int .i64 (k : Int), .slice B1 m1 d1, .slice B2 m2 d2, .slice B3 m3 d3]) rfl rfl Tryd.underlying26 rfl info_prog rfl (fun W hW => by rw [hW]; exact hr33) _ rfl) ?_)
    | (refine on 39 ?_; refine wpList_load_blk (w := w8) rfl 28 _ rfl w3.heap.size 4 rfl 28 _ q4 _ Tryd.underlying28 rfl size_params rfl ?_))
  refine (run_told2 w8.heap.size k b2 r (wk : Int) B1 B2 B3 A' m1 d1 m2 d2 m3 d3 c' y1 y2 y3 qs w8 l1 l2 l3 lp (Nat.le_refl _) hC hR2 (hT.below b8 hTw)).mono ?_
  rintro e w9 ⟨v2, X2, rfl, o2, p2, t2, x2l, b9⟩
  obtain rfl := told_unique t1 t2
  have q4 := q4.after b9
  have o1 := OwnL.below o1 b9
  have b9 := b8.trans (b9.mono (by omega))
  have s9 := b9.size
  clear q1 l1 l2 l3 lp hr33 h41 hr37 t1 t2 p2
  go_wp2_with (first
    | (refine on 46 ?_; refine wpList_load_blk (w := w9) rfl 28 _ rfl w3.heap.size 4 rfl 28 _ q4 _ Tryd.underlying28 rfl size_params rfl ?_))
  refine (blocks_ok (r : Int) (k : Int) (b2 : Int) (wk : Int) w9 hR2).mono ?_
  rintro e wx ⟨rfl, bx⟩
  have q4 := q4.after bx
  have o1 := OwnL.below o1 bx
  have o2 := OwnL.below o2 bx
  have bx := b9.trans (bx.mono s9)
  have sx := bx.size
  obtain ⟨A8, n8, c8, rfl, hn8, _⟩ := OwnL.form2 o1
  obtain ⟨A9, n9, c9, rfl, hn9, _⟩ := OwnL.form2 o2
  have k1 := OwnL.lst o1 p1
  have k2 := OwnL.lst o2 p1
  have hXl : (X1.map (fun p => (p.1, finishV (k : Int) y1 y2 y3 p.1 p.2))).length = X1.length := List.length_map _
  generalize X1.map (fun p => (p.1, finishV (k : Int) y1 y2 y3 p.1 p.2)) = L at *
  obtain ⟨_, _, _, ⟨hi1, _⟩, _, _⟩ := right_says hR2
  obtain ⟨q, hq, hq1, hq6, hqa, hqb, hqc, hqd, hqe, hqf⟩ := cut_says r k b2 (by omega) hr6 hk2 hc1 hc8 hi1
  obtain ⟨S, hS1, hS5, hM, _, hkS⟩ := all_says hR2
  have hM32 : 2 ^ S ≤ 32 := Nat.pow_le_pow_right (n := 2) (i := S) (by omega) hS5
  have hM1 : 1 ≤ 2 ^ S := Nat.two_pow_pos _
  have HAND := Lib.hid (pow_and S hS5)
  rw [hq] at hkS
  rw [hq, hM]
  have E1 := Lib.hid (show IntKind.i64.wrap (q * b2) = q * b2 by rw [IntKind.wrap_i64]; omega)
  have E2 := Lib.hid (show IntKind.i64.wrap (q - 1) = q - 1 by rw [IntKind.wrap_i64]; omega)
  have E3 := Lib.hid (show IntKind.i64.wrap ((q - 1) * b2) = (q - 1) * b2 by rw [IntKind.wrap_i64]; omega)
  have E4 := Lib.hid (show IntKind.i64.wrap (q * k) = q * k by rw [IntKind.wrap_i64]; omega)
  have E5 := Lib.hid (show IntKind.i64.wrap (((2 ^ S : Nat) : Int) - 1) = ((2 ^ S : Nat) - 1 : Int) by rw [IntKind.wrap_i64]; omega)
  have F1 := Lib.hid (show decide ((r : Int) ≤ q * b2) = true by simp; omega)
  have F2 := Lib.hid (show decide ((q - 1) * b2 < (r : Int)) = true by simp; omega)
  have F3 := Lib.hid (show decide (q * k < ((2 ^ S : Nat) : Int)) = true by rw [Int.mul_comm]; exact decide_eq_true hkS)
  have F4 := Lib.hid (show decide ((0 : Int) = 0) = true by decide)
  have hl8 : n8 ≤ 1073741824 := by rw [← hn8.out, hXl]; omega
  have hl9 : n9 ≤ 1073741824 := by rw [← hn9.out, hXl]; omega
  obtain ⟨M, hMM⟩ : ∃ M, ((2 ^ S : Nat) : Int) = M := ⟨_, rfl⟩
  rw [hMM] at HAND E5 F3 ⊢
  clear hkS hM hMM hqa hqb hqc hqd hqe hqf hM32 hM1 hq o1 o2
  go_wp2_with fail
  refine (awake16_any wx).mono ?_
  rintro e u1 ⟨rfl, bu⟩
  have q4 := q4.after bu
  have k1 := (k1.below bu).more bu.size
  have k2 := (k2.below bu).more bu.size
  have bu := bx.trans (bu.mono sx)
  have su := bu.size
  go_wp2_with fail
  refine (Pip.plain_any u1.heap.size u1.heap.size A8 A9 n8 n9 c8 c9 L L u1 k1 k2 (Nat.le_refl _) (Nat.le_refl _) hl8 hl9).mono ?_
  rintro e u2 ⟨rfl, bv⟩
  have q4 := q4.after bv
  have bv := bu.trans (bv.mono su)
  rw [show decide (L = L) = true by simp]
  have g0 : u2.cell? ⟨w3.heap.size, 0, none⟩ = some (.int .i64 (r : Int)) := q4.cell (i := 0) rfl
  have g1 : u2.cell? ⟨w3.heap.size, 1, none⟩ = some (.int .i64 (k : Int)) := q4.cell (i := 1) rfl
  have g2 : u2.cell? ⟨w3.heap.size, 2, none⟩ = some (.int .i64 (b2 : Int)) := q4.cell (i := 2) rfl
  go_wp2_with (first
    | (refine on 68 ?_; refine wpList_run (w := u2) rfl (v := .int .i64 (q * b2)) (Held.y_int (S := fun _ => True) rfl rfl rfl (Held.run_mul 3 .i64 E1.out) _ trivial) ?_)
    | (refine on 71 ?_; refine wpList_run (w := u2) rfl (v := .bool true) (Sp.y_geq (S := fun _ => True) rfl rfl rfl F1.out _ trivial) ?_)
    | (refine on 75 ?_; refine wpList_run (w := u2) rfl (v := .int .i64 (q - 1)) (Held.y_int (S := fun _ => True) rfl rfl rfl (Held.run_sub 3 .i64 E2.out) _ trivial) ?_)
    | (refine on 78 ?_; refine wpList_run (w := u2) rfl (v := .int .i64 ((q - 1) * b2)) (Held.y_int (S := fun _ => True) rfl rfl rfl (Held.run_mul 3 .i64 E3.out) _ trivial) ?_)
    | (refine on 81 ?_; refine wpList_run (w := u2) rfl (v := .bool true) (Held.y_lss (S := fun _ => True) rfl rfl rfl F2.out _ trivial) ?_)
    | (refine on 88 ?_; refine wpList_run (w := u2) rfl (v := .int .i64 (q * k)) (Held.y_int (S := fun _ => True) rfl rfl rfl (Held.run_mul 3 .i64 E4.out) _ trivial) ?_)
    | (refine on 89 ?_; refine wpList_run (w := u2) rfl (v := .bool true) (Held.y_gtr (S := fun _ => True) rfl rfl rfl F3.out _ trivial) ?_)
    | (refine on 94 ?_; refine wpList_run (w := u2) rfl (v := .int .i64 (M - 1)) (Held.y_int (S := fun _ => True) rfl rfl rfl (Held.run_sub 3 .i64 E5.out) _ trivial) ?_)
    | (refine on 95 ?_; refine wpList_run (w := u2) rfl (v := .int .i64 0) (Held.y_int (S := fun _ => True) rfl rfl rfl (Held.run_bitop (by simp) 3 .i64 HAND.out) _ trivial) ?_)
    | (refine on 96 ?_; refine wpList_run (w := u2) rfl (v := .bool true) (Held.y_eqI (S := fun _ => True) rfl rfl rfl F4.out _ trivial) ?_))
  go_ret
  exact ⟨rfl, bv⟩
theorem walk (Z0 : Nat → Value) (K0 : Int) (Aa0 : Option Addr) (na0 ca0 : Nat) (xa0 : List Vm.O) (Ab0 : Option Addr) (nb0 cb0 : Nat) (xb0 : List Vm.O) (Ac0 : Option Addr) (nc0 cc0 : Nat) (xc0 : List Vm.O) (pr0 pk0 pb0 pw0 : Int) (A0 : Option Addr) (n0 c0 : Nat) (ps0 : List (Int × Int)) (a1 : Int) (w : World) (hZ0 : Pi.Zok Z0) (ha0 : Sl.Lst Vm.kO w w.heap.size Aa0 na0 xa0) (hb0 : Sl.Lst Vm.kO w w.heap.size Ab0 nb0 xb0) (hc0 : Sl.Lst Vm.kO w w.heap.size Ac0 nc0 xc0) (hp0 : Sl.Lst Sp.kP w w.heap.size A0 n0 ps0) (hnc0 : n0 ≤ c0) (hcm0 : c0 ≤ maxLen) (w1 : (Lit.int .i64 a1).wf = true) (hL : laidMetH Tryd.prog laidList w) :
    Calls Tryd.prog 6 #[.agg (Pi.jb Z0 K0 Aa0 na0 ca0 Ab0 nb0 cb0 Ac0 nc0 cc0 pr0 pk0 pb0 pw0 A0 n0 c0), .int .i64 a1] w fun e w' => e = .returned (.bool true) ∧ Below w.heap.size w w' := by
  exact start Z0 K0 Aa0 na0 ca0 xa0 Ab0 nb0 cb0 xb0 Ac0 nc0 cc0 xc0 pr0 pk0 pb0 pw0 A0 n0 c0 ps0 a1 w hZ0 ha0 hb0 hc0 hp0 hnc0 hcm0 (Bi.bits_of_laid hL)
set_option maxRecDepth 100000 in
theorem door_met (os : Os) (args : Array Value) : laidMetH Tryd.prog laidList ((World.doorLaid Tryd.prog 400 os).forCall (fun _ _ => 0) ⟨#[], args, []⟩).memory :=
  laidMetH_of_parts3 (fuel := 8) (laidMet_of_run' 8 (by kernel_rfl) (by kernel_rfl)) (by kernel_rfl) (by kernel_rfl)
set_option maxRecDepth 100000 in
theorem lifted (os : Os) (started : os.Started) (H : Type) (enc : TypeId × Value → H) :
    ReturnsInHanded {} Tryd.checked os 6 .any (fun w args => (Rows.pipeSizesSpec.pre enc Tryd.prog Tryd.f6 [] false w args ∧ laidMetH Tryd.prog laidList w) ∧ sizedMet enc Tryd.prog Tryd.f6 (OpenSpec.ofChange Rows.pipeSizesSpec) false w args)
      (Rows.pipeSizesSpec.post enc Tryd.prog Tryd.f6 false true false false) := by
  refine returnsInHanded_of_change_and (C := Tryd.checked) (X := fun w _ => laidMetH Tryd.prog laidList w) (fun _ _ _ hh h => h.of_heap hh) own started (by kernel_rfl) Tryd.func6
    (ChangeSpec.witness_shaped (enc := enc) (C := Tryd.checked) (os := os) (X := fun w _ => laidMetH Tryd.prog laidList w) false (World.doorLaid Tryd.prog 400 os) #[.agg #[.int .u8 0, .int .u8 0, .int .u8 0, .int .u8 0, .int .u8 0, .int .u8 0, .int .u8 0, .int .u8 0, .int .u8 0, .int .u8 0, .int .u8 0, .int .u8 0, .int .u8 0, .int .u8 0, .int .u8 0, .int .u8 0, .int .u8 0, .int .u8 0, .int .u8 0, .int .u8 0, .int .u8 0, .int .u8 0, .int .u8 0, .int .u8 0, .int .u8 0, .int .u8 0, .int .u8 0, .int .u8 0, .int .u8 0, .int .u8 0, .int .u8 0, .int .u8 0, .int .u64 0, .int .i64 0, .slice none 0 0, .slice none 0 0, .slice none 0 0, .int .i64 0, .int .i64 0, .int .i64 0, .int .i64 0, .slice none 0 0], .int .i64 0] 8 rfl (World.shaped_of_RefB (by kernel_rfl) (by kernel_rfl)) (by kernel_rfl) (by kernel_rfl) (by kernel_rfl) (door_met os _)) ?_
  intro W base args ds gs before hval0 hW _ _ hL _
  have hval : ∀ (j : Nat) t v, Tryd.f6.params[j]? = some t → args[j]? = some v → Value.okWide Tryd.prog W .any base t v := hval0
  have hW' := hW
  obtain ⟨p, q, hA0, hV, rfl, hfz, hnd⟩ := hW
  have hA : DataW.TrodAll enc Tryd.prog W 0 (fun _ => true) true Tryd.f6.params.toList args.toList ds p := hA0
  rw [Tryd.params6] at hA hval
  obtain ⟨v0, vs0, d0, ds0, p0, q0, hargs, rfl, rfl, h0, r0⟩ := trodAll_cons hA
  obtain ⟨v1, vs1, d1, ds1, p1, q1, rfl, rfl, rfl, h1, r1⟩ := trodAll_cons r0
  obtain ⟨rfl, rfl, rfl⟩ := trodAll_nil r1
  obtain rfl : args = #[v0, v1] := by cases args; simp_all
  obtain ⟨rfl, rfl⟩ := trodVars_none hV
  have kk0 := h0
  have lt0 : ∀ x ∈ p0, x.block < W.heap.size := by obtain ⟨m, hm⟩ := kk0; exact DataW.trod_lt m _ _ _ hm
  obtain ⟨Z0, K0, Aa0, na0, ca0, xa0, Ab0, nb0, cb0, xb0, Ac0, nc0, cc0, xc0, pr0, pk0, pb0, pw0, A0, n0, c0, ps0, rfl, hZ0, wK0, ha0, hb0, hc0, wp0, hp0⟩ := Pi.open_job (hval 0 31 v0 rfl rfl) h0
  obtain ⟨a1, rfl, rfl, rfl, w1⟩ := open_int Tryd.underlying3 (hval 1 3 v1 rfl rfl) h1
  clear hA0 hval0
  refine (walk Z0 K0 Aa0 na0 ca0 xa0 Ab0 nb0 cb0 xb0 Ac0 nc0 cc0 xc0 pr0 pk0 pb0 pw0 A0 n0 c0 ps0 a1 W hZ0 ha0.1 hb0.1 hc0.1 hp0.1 hp0.2.1 hp0.2.2 w1 hL).mono fun e W' ⟨he, bel⟩ => ?_
  subst he
  exact ⟨_, rfl, _, _, _, [], _, [], hW', trodAll_mk1 (shut_bool Tryd.underlying4 _), (trodAll_cons_mk (Below.trod laidOut (by kernel_rfl) (of_decide_eq_true (by kernel_rfl)) kk0 bel lt0) (trodAll_cons_mk (shut_int Tryd.underlying3 w1) trodAll_mk0)), rfl, bel.frame _, fun h => by cases h⟩
theorem over : Rows.pipeSizesRow.holds Tryd.pinned (OpenSpec.ofChange Rows.pipeSizesSpec) :=
  OpenClaim.holds_of_wide 6 Tryd.f6 rfl rfl rfl rfl rfl rfl rfl ⟨rfl, rfl, rfl, rfl, rfl⟩ rfl rfl rfl rfl rfl (by kernel_rfl) Tryd.func6 (by kernel_rfl)
    (of_decide_eq_true (by kernel_rfl)) (by unfold Func.isWrapper; first | (rw [if_pos (by decide +kernel)]; kernel_rfl) | (rw [if_neg (by decide +kernel)]; exact ⟨rfl, rfl⟩))
    (fun os started H enc _ => lifted os started H enc)
theorem proved : Rows.PipeSizesCardSaid :=
  Claim7.holds_tied_plain_at .later [] [.data, .data] true (true, "a149d18c0653b1648f16848b2da2c696ebc66272bb5a5a3ee711bd8e17f0b6c7") false
    over (fun _ h => by cases h) (by kernel_rfl) (fun _ h => by cases h) pipeSizes_row_tie rfl ⟨rfl, rfl⟩ (by kernel_rfl) rfl
    (fun f fn hf hfn => by
      obtain rfl : f = 6 := Option.some.inj ((show Tryd.prog.funcNamed "domino/dominolaw16.PipeSizes" = some 6 by kernel_rfl).symm.trans hf) |>.symm
      obtain rfl : fn = Tryd.f6 := (Option.some.inj (Tryd.func6.symm.trans hfn)).symm
      exact ⟨by kernel_rfl, fun j t ht => by
        rw [Tryd.params6] at ht
        have hm : t ∈ [31, 3] := by simpa using Array.mem_of_getElem? ht
        have hall : ([31, 3].all fun u => !Tryd.prog.wantsStandIn u) = true := by kernel_rfl
        exact (show Tryd.prog.wantsStandIn t = false by simpa using List.all_eq_true.1 hall t hm)⟩)
    (by kernel_rfl)
#print axioms proved
end Go.Proofs.YtlinmcgmkpkpaaaDoor.pipeSizes
