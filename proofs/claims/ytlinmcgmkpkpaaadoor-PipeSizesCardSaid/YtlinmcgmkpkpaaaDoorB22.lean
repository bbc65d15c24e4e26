/-
  Package pipe's Run by its contract, told as the document tells a job: by rising keys, each with its values folded in the order in which they came, and finished.
  What stands behind the stages, plainly: as many blocks as there are, each of as many records; behind the first rounds sorted, the last one dead; behind the last ones what is alive stands first.
  The same of package pipe's Run, and how long at most what it tells is.
  The document's own test of public numbers (package dominoref12's Right), by its contract, where nothing is refused.
  The functions Same and Plain of package dominohelp on pairs, by their contracts.
  The document's own answer for package bitonic: the first places of a round's pairs, and how far the second ones are, by its contract.
  What the rows' condition on math/bits' tables gives: the table of 64 numbers holds what the program's text lays.
-/
import Derived.Test.YtlinmcgmkpkpaaaDoorB21
import Derived.Test.YtlinmcgmkpkpaaaDoorB12
import Derived.Test.YtlinmcgmkpkpaaaDoorB11
import Derived.Test.YtlinmcgmkpkpaaaDoorB20
import Derived.Test.YtlinmcgmkpkpaaaDoorB14
import Derived.Test.YtlinmcgmkpkpaaaDoorB9
import Derived.Test.YtlinmcgmkpkpaaaDoorB7
import Derived.Test.YtlinmcgmkpkpaaaDoorB5
import Derived.Test.YtlinmcgmkpkpaaaDoorB3
import Derived.Lib.LaidTab
import Derived.LaidMore
import Derived.Stop.Joined
import Derived.Stop.LaidErr
set_option linter.unusedVariables false
namespace Go.Proofs.YtlinmcgmkpkpaaaDoor.Pi
open Go.RowKit Go.Shelf Mem Held Ct Rc Rs Sl Vm Sp Mg
attribute [local irreducible] wpList wpListIn Calls
theorem cap_of (r k b S : Nat) (hb : 1 ≤ b) (h : (k : Int) * inI (r : Int) (b : Int) < ((2 ^ S : Nat) : Int)) : r * k < 2 ^ S * b := by
  rcases Nat.eq_zero_or_pos r with h0 | h0
  · subst h0
    have := Nat.two_pow_pos S
    rw [Nat.zero_mul]
    exact Nat.mul_pos this (by omega)
  have e : inI (r : Int) (b : Int) = (((r + b - 1) / b : Nat) : Int) := by
    unfold inI
    rw [Int.natCast_ediv]
    congr 1
    omega
  rw [e, ← Int.natCast_mul] at h
  have h : k * ((r + b - 1) / b) < 2 ^ S := by exact_mod_cast h
  have h1 := Nat.div_add_mod (r + b - 1) b
  have h2 := Nat.mod_lt (r + b - 1) (show b > 0 by omega)
  generalize (r + b - 1) / b = q at *
  have h3 : r ≤ b * q := by omega
  have h4 : r * k ≤ b * q * k := Nat.mul_le_mul_right k h3
  have h5 : b * q * k = k * q * b := by rw [Nat.mul_assoc, Nat.mul_comm, Nat.mul_comm q k]
  have h6 : k * q * b < 2 ^ S * b := Nat.mul_lt_mul_of_pos_right h (by omega)
  omega
end Go.Proofs.YtlinmcgmkpkpaaaDoor.Pi
namespace Go.Proofs.YtlinmcgmkpkpaaaDoor.Pi
open Go.RowKit Go.Shelf Mem Held Ct Rc Rs Sl Vm Sp Mg Cn
theorem stg_shape {k b S n nn : Nat} {m f fi : List O} {ps : List (Int × Int)} (hC : checkB (k : Int) m f fi = true) (hb : 0 < b) (hlen : ps.length = n) (hn : n ≤ 64) (hL : n * k < 2 ^ S * b) (hm : ∀ o ∈ m, o.wf) (hf : ∀ o ∈ f, o.wf) (hfi : ∀ o ∈ fi, o.wf) (hp : ∀ x ∈ ps, pwf x) (h1 : 1 ≤ nn) (h2 : nn ≤ 2 + 2 * Bi.tri S) :
    (∀ x ∈ stgB (k : Int) m f fi ps b (2 ^ S) (Bi.tri S) nn, x.length = b) ∧ (stgB (k : Int) m f fi ps b (2 ^ S) (Bi.tri S) nn).length = 2 ^ S ∧ Wf (stgB (k : Int) m f fi ps b (2 ^ S) (Bi.tri S) nn) ∧
    (nn = 1 + Bi.tri S → srtB true (stgB (k : Int) m f fi ps b (2 ^ S) (Bi.tri S) nn).flatten = true ∧ ∀ x, (stgB (k : Int) m f fi ps b (2 ^ S) (Bi.tri S) nn).flatten.getLast? = some x → x.d = true) ∧
    (nn = 2 + 2 * Bi.tri S → srtB false (stgB (k : Int) m f fi ps b (2 ^ S) (Bi.tri S) nn).flatten = true) := by
  have hLe : ps.length * k ≤ 2 ^ S * b := by rw [hlen]; omega
  have hME := mapB_even (B := b) (S := S) hC hLe
  have hMW := mapB_wf (K := k) (f := f) (e := fi) (B := b) (S := S) hC hLe hm hp (by rw [hlen]; omega)
  have hMN : (mapB (k : Int) m f fi ps b (2 ^ S)).length = 2 ^ S := mapB_length
  have hBE := behB_even (S := S) hME hMN (Nat.le_refl (Bi.tri S))
  have hBW := behB_wf (seq := true) (S := S) hMW hMN (Nat.le_refl (Bi.tri S))
  have hBN : (behB true (2 ^ S) (mapB (k : Int) m f fi ps b (2 ^ S)) (Bi.tri S)).length = 2 ^ S := by rw [behB_length, hMN]
  have hFE := foldC_even (foldV (k : Int) m f fi) (finishV (k : Int) m f fi) RD (behB true (2 ^ S) (mapB (k : Int) m f fi ps b (2 ^ S)) (Bi.tri S)) (fun x hx => (hBE x hx).1)
  have hFW := outs_wfs (F := foldV (k : Int) m f fi) (G := finishV (k : Int) m f fi) (fun a v ha hv => Sp.foldV_wf (K := (k : Int)) (m := m) (e := fi) hf a v ha hv) (fun a v ha hv => Sp.finishV_wf (K := (k : Int)) (m := m) (f := f) hfi a v ha hv) hBW
  have hFN : (foldC (foldV (k : Int) m f fi) (finishV (k : Int) m f fi) RD (behB true (2 ^ S) (mapB (k : Int) m f fi ps b (2 ^ S)) (Bi.tri S))).length = 2 ^ S := by rw [foldC_length, hBN]
  by_cases hc : nn ≤ 1 + Bi.tri S
  · have e : stgB (k : Int) m f fi ps b (2 ^ S) (Bi.tri S) nn = behB true (2 ^ S) (mapB (k : Int) m f fi ps b (2 ^ S)) (nn - 1) := by rw [stgB, if_neg (by omega), if_pos hc]
    rw [e]
    refine ⟨fun x hx => (behB_even (S := S) hME hMN (show nn - 1 ≤ Bi.tri S by omega) x hx).1, by rw [behB_length, hMN], behB_wf (seq := true) (S := S) hMW hMN (show nn - 1 ≤ Bi.tri S by omega), fun h => ?_, fun h => by omega⟩
    rw [show nn - 1 = Bi.tri S by omega]
    refine ⟨srtB_iff.2 (behB_sorts hb hME hMN), fun x hx => ?_⟩
    obtain ⟨A1, ds, hA, hds, h0, _⟩ := first_half (S := S) (B := b) (ps := ps) hC hb (by omega) (by rw [hlen]; exact hL)
    rw [hA, List.getLast?_append] at hx
    cases hd : ds.getLast? with
    | none => exact absurd (List.getLast?_eq_none_iff.1 hd) h0
    | some y =>
      rw [hd] at hx
      obtain rfl : y = x := by simpa using hx
      exact hds _ (List.mem_of_getLast? hd)
  · have e : stgB (k : Int) m f fi ps b (2 ^ S) (Bi.tri S) nn = behB false (2 ^ S) (foldC (foldV (k : Int) m f fi) (finishV (k : Int) m f fi) RD (behB true (2 ^ S) (mapB (k : Int) m f fi ps b (2 ^ S)) (Bi.tri S))) (nn - 2 - Bi.tri S) := by rw [stgB, if_neg (by omega), if_neg hc]
    rw [e]
    have hr : nn - 2 - Bi.tri S ≤ Bi.tri S := by omega
    refine ⟨fun x hx => (behB_even (S := S) hFE hFN hr x hx).1, by rw [behB_length, hFN], behB_wf (seq := false) (S := S) hFW hFN hr, fun h => by omega, fun h => ?_⟩
    rw [show nn - 2 - Bi.tri S = Bi.tri S by omega]
    exact srtB_iff.2 (behB_sorts hb hFE hFN)
end Go.Proofs.YtlinmcgmkpkpaaaDoor.Pi
namespace Go.Proofs.YtlinmcgmkpkpaaaDoor.Pi
open Go.RowKit Go.Shelf Mem Held Ct Rc Rs Sl Vm Sp Mg
attribute [local irreducible] wpList wpListIn Calls
set_option maxHeartbeats 4000000 in
theorem run_told2 (B k b n : Nat) (wk : Int) (A1 A2 A3 A : Option Addr) (n1 c1 n2 c2 n3 c3 c : Nat) (m f fi : List O) (ps : List (Int × Int)) (w : World)
    (h1 : Lst kO w B A1 n1 m) (h2 : Lst kO w B A2 n2 f) (h3 : Lst kO w B A3 n3 fi) (hp : Lst kP w B A n ps) (hB : B ≤ w.heap.size) (hC : checkB (k : Int) m f fi = true) (hR : rightB (n : Int) (k : Int) (b : Int) wk = true) (hT : Bi.TzT w) :
    Calls Tryd.prog 9 #[.agg #[.int .i64 (k : Int), .slice A1 n1 c1, .slice A2 n2 c2, .slice A3 n3 c3], .agg #[.int .i64 (n : Int), .int .i64 (k : Int), .int .i64 (b : Int), .int .i64 wk], .slice A n c] w fun e w' => ∃ v X, e = .returned (.tuple #[v, .int .i64 0]) ∧ OwnL kP 39 w' w.heap.size v (X.map fun p => (p.1, finishV (k : Int) m f fi p.1 p.2)) ∧
      (∀ x ∈ X.map fun p => (p.1, finishV (k : Int) m f fi p.1 p.2), pwf x) ∧ IsTold (foldV (k : Int) m f fi) (Sp.live (k : Int) m f fi ps) X ∧ X.length ≤ 256 ∧ Below w.heap.size w w' := by
  obtain ⟨S, hS1, hS5, hM, hS, hk⟩ := all_says hR
  obtain ⟨⟨_, hn⟩, _, ⟨hb1, hb8⟩, _, _⟩ := right_says hR
  have hL := cap_of n k b S (by omega) hk
  obtain ⟨X, hX, hX2⟩ := pipe_told (ps := ps) (m := m) (f := f) (e := fi) (K := k) (B := b) (S := S) hC (by omega) (by rw [hp.1]; omega) (by rw [hp.1]; exact hL)
  have hlen : X.length ≤ 256 := by
    obtain ⟨hz, hbl, _⟩ := stg_shape (nn := 2 + 2 * Bi.tri S) hC (by omega) hp.1 (by omega) hL h1.2.1 h2.2.1 h3.2.1 hp.2.1 (by omega) (Nat.le_refl _)
    have e := flat_len hz _ (Nat.le_refl _)
    rw [List.take_length, hbl] at e
    have l1 := List.length_filter_le (fun r : R => !r.d) (stgB (k : Int) m f fi ps b (2 ^ S) (Bi.tri S) (2 + 2 * Bi.tri S)).flatten
    have l2 : (tellP (stgB (k : Int) m f fi ps b (2 ^ S) (Bi.tri S) (2 + 2 * Bi.tri S))).length = X.length := by rw [hX2, List.length_map]
    rw [tellP, List.length_map] at l2
    have hM32 : 2 ^ S ≤ 32 := Nat.pow_le_pow_right (n := 2) (i := S) (by omega) hS5
    have h8 : 2 ^ S * b ≤ 32 * 8 := Nat.mul_le_mul hM32 (by omega)
    omega
  refine (run_ok B k b S (Bi.tri S) wk A1 A2 A3 A n1 c1 n2 c2 n3 c3 n c m f fi ps w h1 h2 h3 hp hB hC hR hM hS5 rfl hL hT).mono ?_
  rintro e w' ⟨v, rfl, o1, w1, b1⟩
  rw [hX2] at o1 w1
  exact ⟨v, X, rfl, o1, w1, hX, hlen, b1⟩
end Go.Proofs.YtlinmcgmkpkpaaaDoor.Pi
namespace Go.Proofs.YtlinmcgmkpkpaaaDoor.Pi
open Go.RowKit Go.Shelf Mem Held Ct Rc Rs Sl Vm Sp Mg
attribute [local irreducible] wpList wpListIn Calls
set_option maxRecDepth 100000 in
set_option maxHeartbeats 8000000 in
theorem rright_ok (r k b wk : Int) (w : World) (hR : rightB r k b wk = true) :
    Calls Tryd.prog 18 #[.agg #[.int .i64 r, .int .i64 k, .int .i64 b, .int .i64 wk]] w fun e w' => e = .returned (.int .i64 0) ∧ Below w.heap.size w w' := by
  obtain ⟨⟨hr1, hr⟩, ⟨hk1, hk⟩, ⟨hb1, hb⟩, ⟨hi1, hi⟩, hq1, hq⟩ := right_says hR
  have hw : 1 ≤ wk ∧ wk ≤ 4 := by
    rw [rightB_of] at hR
    simp only [Bool.and_eq_true, decide_eq_true_eq] at hR
    exact inB_says hR.1.2
  obtain ⟨hw1, hw⟩ := hw
  have hb0 : b ≠ 0 := by omega
  have E1 := Lib.hid (show IntKind.i64.wrap (r + b) = r + b by rw [IntKind.wrap_i64]; omega)
  have E2 := Lib.hid (show IntKind.i64.wrap (r + b - 1) = r + b - 1 by rw [IntKind.wrap_i64]; omega)
  have E3 := Lib.hid (show IntKind.i64.wrap ((r + b - 1).tdiv b) = inI r b by
    rw [show (r + b - 1).tdiv b = inI r b from Int.tdiv_eq_ediv_of_nonneg (by omega), IntKind.wrap_i64]; omega)
  have E4 := Lib.hid (show IntKind.i64.wrap (k * inI r b) = k * inI r b by rw [IntKind.wrap_i64]; omega)
  have F0 := Lib.hid (show decide (r < 1) = false by simp; omega)
  have F1 := Lib.hid (show decide (64 < r) = false by simp; omega)
  have F2 := Lib.hid (show decide (k < 1) = false by simp; omega)
  have F3 := Lib.hid (show decide (4 < k) = false by simp; omega)
  have F4 := Lib.hid (show decide (b < 1) = false by simp; omega)
  have F5 := Lib.hid (show decide (8 < b) = false by simp; omega)
  have F6 := Lib.hid (show decide (wk < 1) = false by simp; omega)
  have F7 := Lib.hid (show decide (4 < wk) = false by simp; omega)
  have F8 := Lib.hid (show decide (32 ≤ k * inI r b) = false by simp; omega)
  generalize inI r b = q at *
  clear hR hq1 hq hi1 hi hr1 hr hk1 hk hb1 hb hw1 hw
  go_enter Tryd.func18, Tryd.ntmps18
  go_wp2_with (refine wpList_box_blk (w := w) rfl 28 _ rfl #[.int .i64 r, .int .i64 k, .int .i64 b, .int .i64 wk] rfl ?_; intro u1 q1 g1 z1; have b1 : Below w.heap.size w u1 := (Below.refl _ w).grown g1 (Nat.le_refl _) (by simp))
  refine wp_region_held (S := fun W => Below u1.heap.size u1 W) (by kernel_rfl) ?_
  change wpAnyH _ _ _ _ _ _ _ _ u1.drew
  have c0_0 := (Below.refl u1.heap.size u1).drew
  refine Held.tk (v := .pointer (some ⟨w.heap.size, 0, none⟩)) 0 (some 3) rfl (Held.y_field (k := 0) (s := 0) rfl rfl Tryd.underlying28 rfl (by kernel_rfl) rfl) c0_0 ?_
  simp only [Act.put, Z1, Z2, Z3]
  refine Held.tk (v := .int .i64 r) 1 (some 4) rfl (Held.y_load rfl rfl (by kernel_rfl) (fun W hW => (q1.after hW).cell rfl)) c0_0 ?_
  simp only [Act.put, Z1, Z2, Z3]
  refine Held.tk (v := .bool false) 2 (some 5) rfl (Held.y_lss rfl rfl rfl (F0.out)) c0_0 ?_
  simp only [Act.put, Z1, Z2, Z3]
  refine Held.tk (v := .bool false) 3 (some 6) rfl (Held.y_move rfl rfl) c0_0 ?_
  simp only [Act.put, Z1, Z2, Z3]
  refine Held.tk (v := .pointer (some ⟨w.heap.size, 0, none⟩)) 4 (some 7) rfl (Held.y_field (k := 0) (s := 0) rfl rfl Tryd.underlying28 rfl (by kernel_rfl) rfl) c0_0 ?_
  simp only [Act.put, Z1, Z2, Z3]
  refine Held.tk (v := .int .i64 r) 5 (some 8) rfl (Held.y_load rfl rfl (by kernel_rfl) (fun W hW => (q1.after hW).cell rfl)) c0_0 ?_
  simp only [Act.put, Z1, Z2, Z3]
  refine Held.tk (v := .bool false) 6 (some 9) rfl (Held.y_gtr rfl rfl rfl (F1.out)) c0_0 ?_
  simp only [Act.put, Z1, Z2, Z3]
  refine Held.tk (v := .bool false) 7 (some 10) rfl (Held.y_pickF rfl rfl rfl) c0_0 ?_
  simp only [Act.put, Z1, Z2, Z3]
  refine Held.tk (v := .bool false) 8 (some 11) rfl (Held.y_move rfl rfl) c0_0 ?_
  simp only [Act.put, Z1, Z2, Z3]
  refine Held.tk (v := .pointer (some ⟨w.heap.size, 1, none⟩)) 9 (some 12) rfl (Held.y_field (k := 1) (s := 0) rfl rfl Tryd.underlying28 rfl (by kernel_rfl) rfl) c0_0 ?_
  simp only [Act.put, Z1, Z2, Z3]
  refine Held.tk (v := .int .i64 k) 10 (some 13) rfl (Held.y_load rfl rfl (by kernel_rfl) (fun W hW => (q1.after hW).cell rfl)) c0_0 ?_
  simp only [Act.put, Z1, Z2, Z3]
  refine Held.tk (v := .bool false) 11 (some 14) rfl (Held.y_lss rfl rfl rfl (F2.out)) c0_0 ?_
  simp only [Act.put, Z1, Z2, Z3]
  refine Held.tk (v := .bool false) 12 (some 15) rfl (Held.y_pickF rfl rfl rfl) c0_0 ?_
  simp only [Act.put, Z1, Z2, Z3]
  refine Held.tk (v := .bool false) 13 (some 16) rfl (Held.y_move rfl rfl) c0_0 ?_
  simp only [Act.put, Z1, Z2, Z3]
  refine Held.tk (v := .pointer (some ⟨w.heap.size, 1, none⟩)) 14 (some 17) rfl (Held.y_field (k := 1) (s := 0) rfl rfl Tryd.underlying28 rfl (by kernel_rfl) rfl) c0_0 ?_
  simp only [Act.put, Z1, Z2, Z3]
  refine Held.tk (v := .int .i64 k) 15 (some 18) rfl (Held.y_load rfl rfl (by kernel_rfl) (fun W hW => (q1.after hW).cell rfl)) c0_0 ?_
  simp only [Act.put, Z1, Z2, Z3]
  refine Held.tk (v := .bool false) 16 (some 19) rfl (Held.y_gtr rfl rfl rfl (F3.out)) c0_0 ?_
  simp only [Act.put, Z1, Z2, Z3]
  refine Held.tk (v := .bool false) 17 (some 20) rfl (Held.y_pickF rfl rfl rfl) c0_0 ?_
  simp only [Act.put, Z1, Z2, Z3]
  refine Held.tk (v := .bool false) 18 (some 21) rfl (Held.y_move rfl rfl) c0_0 ?_
  simp only [Act.put, Z1, Z2, Z3]
  refine Held.tk (v := .pointer (some ⟨w.heap.size, 2, none⟩)) 19 (some 22) rfl (Held.y_field (k := 2) (s := 0) rfl rfl Tryd.underlying28 rfl (by kernel_rfl) rfl) c0_0 ?_
  simp only [Act.put, Z1, Z2, Z3]
  refine Held.tk (v := .int .i64 b) 20 (some 23) rfl (Held.y_load rfl rfl (by kernel_rfl) (fun W hW => (q1.after hW).cell rfl)) c0_0 ?_
  simp only [Act.put, Z1, Z2, Z3]
  refine Held.tk (v := .bool false) 21 (some 24) rfl (Held.y_lss rfl rfl rfl (F4.out)) c0_0 ?_
  simp only [Act.put, Z1, Z2, Z3]
  refine Held.tk (v := .bool false) 22 (some 25) rfl (Held.y_pickF rfl rfl rfl) c0_0 ?_
  simp only [Act.put, Z1, Z2, Z3]
  refine Held.tk (v := .bool false) 23 (some 26) rfl (Held.y_move rfl rfl) c0_0 ?_
  simp only [Act.put, Z1, Z2, Z3]
  refine Held.tk (v := .pointer (some ⟨w.heap.size, 2, none⟩)) 24 (some 27) rfl (Held.y_field (k := 2) (s := 0) rfl rfl Tryd.underlying28 rfl (by kernel_rfl) rfl) c0_0 ?_
  simp only [Act.put, Z1, Z2, Z3]
  refine Held.tk (v := .int .i64 b) 25 (some 28) rfl (Held.y_load rfl rfl (by kernel_rfl) (fun W hW => (q1.after hW).cell rfl)) c0_0 ?_
  simp only [Act.put, Z1, Z2, Z3]
  refine Held.tk (v := .bool false) 26 (some 29) rfl (Held.y_gtr rfl rfl rfl (F5.out)) c0_0 ?_
  simp only [Act.put, Z1, Z2, Z3]
  refine Held.tk (v := .bool false) 27 (some 30) rfl (Held.y_pickF rfl rfl rfl) c0_0 ?_
  simp only [Act.put, Z1, Z2, Z3]
  refine Held.tk (v := .bool false) 28 (some 31) rfl (Held.y_move rfl rfl) c0_0 ?_
  simp only [Act.put, Z1, Z2, Z3]
  refine Held.tk (v := .pointer (some ⟨w.heap.size, 3, none⟩)) 29 (some 32) rfl (Held.y_field (k := 3) (s := 0) rfl rfl Tryd.underlying28 rfl (by kernel_rfl) rfl) c0_0 ?_
  simp only [Act.put, Z1, Z2, Z3]
  refine Held.tk (v := .int .i64 wk) 30 (some 33) rfl (Held.y_load rfl rfl (by kernel_rfl) (fun W hW => (q1.after hW).cell rfl)) c0_0 ?_
  simp only [Act.put, Z1, Z2, Z3]
  refine Held.tk (v := .bool false) 31 (some 34) rfl (Held.y_lss rfl rfl rfl (F6.out)) c0_0 ?_
  simp only [Act.put, Z1, Z2, Z3]
  refine Held.tk (v := .bool false) 32 (some 35) rfl (Held.y_pickF rfl rfl rfl) c0_0 ?_
  simp only [Act.put, Z1, Z2, Z3]
  refine Held.tk (v := .bool false) 33 (some 36) rfl (Held.y_move rfl rfl) c0_0 ?_
  simp only [Act.put, Z1, Z2, Z3]
  refine Held.tk (v := .pointer (some ⟨w.heap.size, 3, none⟩)) 34 (some 37) rfl (Held.y_field (k := 3) (s := 0) rfl rfl Tryd.underlying28 rfl (by kernel_rfl) rfl) c0_0 ?_
  simp only [Act.put, Z1, Z2, Z3]
  refine Held.tk (v := .int .i64 wk) 35 (some 38) rfl (Held.y_load rfl rfl (by kernel_rfl) (fun W hW => (q1.after hW).cell rfl)) c0_0 ?_
  simp only [Act.put, Z1, Z2, Z3]
  refine Held.tk (v := .bool false) 36 (some 39) rfl (Held.y_gtr rfl rfl rfl (F7.out)) c0_0 ?_
  simp only [Act.put, Z1, Z2, Z3]
  refine Held.tk (v := .bool false) 37 (some 40) rfl (Held.y_pickF rfl rfl rfl) c0_0 ?_
  simp only [Act.put, Z1, Z2, Z3]
  refine Held.tk (v := .bool false) 38 (some 41) rfl (Held.y_move rfl rfl) c0_0 ?_
  simp only [Act.put, Z1, Z2, Z3]
  refine Held.tk (v := .pointer (some ⟨w.heap.size, 1, none⟩)) 39 (some 42) rfl (Held.y_field (k := 1) (s := 0) rfl rfl Tryd.underlying28 rfl (by kernel_rfl) rfl) c0_0 ?_
  simp only [Act.put, Z1, Z2, Z3]
  refine Held.tk (v := .int .i64 k) 40 (some 43) rfl (Held.y_load rfl rfl (by kernel_rfl) (fun W hW => (q1.after hW).cell rfl)) c0_0 ?_
  simp only [Act.put, Z1, Z2, Z3]
  refine Held.tk (v := .pointer (some ⟨w.heap.size, 0, none⟩)) 41 (some 44) rfl (Held.y_field (k := 0) (s := 0) rfl rfl Tryd.underlying28 rfl (by kernel_rfl) rfl) c0_0 ?_
  simp only [Act.put, Z1, Z2, Z3]
  refine Held.tk (v := .int .i64 r) 42 (some 45) rfl (Held.y_load rfl rfl (by kernel_rfl) (fun W hW => (q1.after hW).cell rfl)) c0_0 ?_
  simp only [Act.put, Z1, Z2, Z3]
  refine Held.tk (v := .pointer (some ⟨w.heap.size, 2, none⟩)) 43 (some 46) rfl (Held.y_field (k := 2) (s := 0) rfl rfl Tryd.underlying28 rfl (by kernel_rfl) rfl) c0_0 ?_
  simp only [Act.put, Z1, Z2, Z3]
  refine Held.tk (v := .int .i64 b) 44 (some 47) rfl (Held.y_load rfl rfl (by kernel_rfl) (fun W hW => (q1.after hW).cell rfl)) c0_0 ?_
  simp only [Act.put, Z1, Z2, Z3]
  refine Held.tk (v := .int .i64 ((r + b))) 45 (some 48) rfl (Held.y_int rfl rfl rfl (Held.run_add 3 .i64 (E1.out))) c0_0 ?_
  simp only [Act.put, Z1, Z2, Z3]
  refine Held.tk (v := .int .i64 ((r + b - 1))) 46 (some 49) rfl (Held.y_int rfl rfl rfl (Held.run_sub 3 .i64 (E2.out))) c0_0 ?_
  simp only [Act.put, Z1, Z2, Z3]
  refine Held.tk (v := .pointer (some ⟨w.heap.size, 2, none⟩)) 47 (some 50) rfl (Held.y_field (k := 2) (s := 0) rfl rfl Tryd.underlying28 rfl (by kernel_rfl) rfl) c0_0 ?_
  simp only [Act.put, Z1, Z2, Z3]
  refine Held.tk (v := .int .i64 b) 48 (some 51) rfl (Held.y_load rfl rfl (by kernel_rfl) (fun W hW => (q1.after hW).cell rfl)) c0_0 ?_
  simp only [Act.put, Z1, Z2, Z3]
  refine Held.tk (v := .int .i64 q) 49 (some 52) rfl (Bi.y_quo (r + b - 1) b rfl rfl rfl (Held.run_quo 3 .i64 hb0 E3.out)) c0_0 ?_
  simp only [Act.put, Z1, Z2, Z3]
  refine Held.tk (v := .int .i64 ((k * q))) 50 (some 53) rfl (Held.y_int rfl rfl rfl (Held.run_mul 3 .i64 (E4.out))) c0_0 ?_
  simp only [Act.put, Z1, Z2, Z3]
  refine Held.tk (v := .bool false) 51 (some 54) rfl (Sp.y_geq rfl rfl rfl F8.out) c0_0 ?_
  simp only [Act.put, Z1, Z2, Z3]
  refine Held.tk (v := .bool false) 52 (some 55) rfl (Held.y_pickF rfl rfl rfl) c0_0 ?_
  simp only [Act.put, Z1, Z2, Z3]
  refine wpAnyH_done (by kernel_rfl) ?_ _
  have b2 := b1.trans (c0_0.mono b1.size)
  go_wp2_with fail
  go_ret
  exact ⟨rfl, b2⟩
end Go.Proofs.YtlinmcgmkpkpaaaDoor.Pi
namespace Go.Proofs.YtlinmcgmkpkpaaaDoor.Pip
open Go.RowKit Go.Shelf Go.Proofs.YtlinmcgmkpkpaaaDoor Mem Held Rc Rs Sl Vm Sp
attribute [local irreducible] wpList wpListIn Calls
theorem key_pair (w : World) (a b c d : Int) : (Op.equalIn 10000 39 (.agg #[.int .i64 a, .int .i64 b]) (.agg #[.int .i64 c, .int .i64 d])).run Tryd.prog w = .ok (decide (a = c ∧ b = d)) w := by
  have hu : Tryd.prog.underlying 39 = some (.struct (Tryd.prog.fieldsOf 39)) := by kernel_rfl
  have hp : Tryd.prog.stoodInHeld 39 = false := by kernel_rfl
  have ei : ∀ (d : Nat) (k : IntKind) (x y : Int), (Op.equalIn (d + 1) 2 (.int k x) (.int k y)).run Tryd.prog w = .ok (x == y) w := fun d k x y => run_equalIn_int w d 2 k .i64 x y Tryd.underlying2
  rw [show (10000 : Nat) = 9998 + 1 + 1 from rfl, run_equalIn_agg w (9998 + 1) _ _ _ hu hp]
  simp only [Program.fieldsOf, Tryd.underlying39, Op.eqFields, Go.part, isAgg, Sem.run_bind, run_underlying Tryd.underlying2, Result.andThen_ok, Sem.run_pure, Sem.run_ite]
  simp [ei]
  by_cases h0 : a = c <;> by_cases h1 : b = d <;> simp [h0, h1]
section
variable {S : World → Prop} {ρ : Operand → Value} {o : Oper}
theorem y_eqp {ty : TypeId} {x y : Operand} {a b c d : Int} {r : Bool} (ho : o.op = .binOp .eql 39 x y ty) (hx : ρ x = .agg #[.int .i64 a, .int .i64 b]) (hy : ρ y = .agg #[.int .i64 c, .int .i64 d])
    (hr : decide (a = c ∧ b = d) = r) : ∀ w, S w → (execOp ρ o).run Tryd.prog w = .ok (.value (.bool r)) w :=
  Held.y_bin ho hx hy (fun w => by simp [eqGuard, show Tryd.prog.eqGuardType Tryd.prog.depth 39 = false by kernel_rfl]) (fun w => by rw [← hr, run_eql_struct, key_pair]; rfl)
end
theorem eqp_any (a b : Int × Int) (w : World) : Calls Tryd.prog 27 #[.agg #[.int .i64 a.1, .int .i64 a.2], .agg #[.int .i64 b.1, .int .i64 b.2]] w fun e w' => e = .returned (.bool (decide (a = b))) ∧ Below w.heap.size w w' := by
  have HR := Lib.hid (show decide (a.1 = b.1 ∧ a.2 = b.2) = decide (a = b) from decide_eq_decide.2 Prod.ext_iff.symm)
  go_enter Tryd.func27, Tryd.ntmps27
  go_wp2_with (first
    | (refine wpList_box_blk (w := w) rfl 39 _ rfl _ rfl ?_; intro w1 q1 g1 z1)
    | (refine wpList_box_blk (w := w1) rfl 39 _ rfl _ rfl ?_; intro w2 q2 g2 z2; have q1 := q1.grown g2 (by simp))
    | (refine wpList_load_blk (w := w2) rfl 39 _ rfl w.heap.size 2 rfl 39 _ q1 _ Tryd.underlying39 rfl (by kernel_rfl) rfl ?_)
    | (refine wpList_load_blk (w := w2) rfl 39 _ rfl w1.heap.size 2 rfl 39 _ q2 _ Tryd.underlying39 rfl (by kernel_rfl) rfl ?_)
    | (refine wpList_run rfl (v := .bool (decide (a = b))) (y_eqp (S := fun _ => True) rfl rfl rfl HR.out _ trivial) ?_))
  go_ret
  exact ⟨rfl, ((Below.refl _ w).grown g1 (Nat.le_refl _) (by simp)).grown g2 g1.size (by simp)⟩
theorem take_stepP {xs ys : List (Int × Int)} {k : Nat} (hx : k < xs.length) (hy : k < ys.length) (h : xs.take k = ys.take k) (e : xs.getD k (0, 0) = ys.getD k (0, 0)) : xs.take (k + 1) = ys.take (k + 1) := by
  rw [List.take_add_one, List.take_add_one, h]
  simp only [List.getD_eq_getElem?_getD, List.getElem?_eq_getElem hx, List.getElem?_eq_getElem hy, Option.getD_some] at e
  rw [List.getElem?_eq_getElem hx, List.getElem?_eq_getElem hy, e]
set_option maxRecDepth 100000 in
set_option maxHeartbeats 4000000 in
theorem same_any (B B' : Nat) (A A' : Option Addr) (n n' c c' : Nat) (rs rs' : List (Int × Int)) (w : World) (h : Lst kP w B A n rs) (h' : Lst kP w B' A' n' rs') (hB : B ≤ w.heap.size) (hB' : B' ≤ w.heap.size) (hn : n ≤ 1073741824) (hn' : n' ≤ 1073741824) :
    Calls Tryd.prog 26 #[.slice A n c, .slice A' n' c', .func (.func 27) #[] #[]] w fun e w' => e = .returned (.bool (decide (rs = rs'))) ∧ Below w.heap.size w w' := by
  by_cases hnn : n = n'
  · subst hnn
    have hne : ((n : Int) != (n : Int)) = false := by simp
    have HL := Lib.hid h.1
    have HL' := Lib.hid h'.1
    go_enter Tryd.func26, Tryd.ntmps26
    go_wp2_with fail
    go_loopw [7] (fun i wr => ∃ k : Nat, k ≤ n ∧ i = .int .i64 k ∧ Below w.heap.size w wr ∧ Hid (rs.take k = rs'.take k)) (fun i _ => n - (intOf i).toNat)
    case atStart => exact ⟨0, by omega, rfl, Below.refl _ _, Lib.hid rfl⟩
    case round =>
      obtain ⟨k, hk, rfl, hst, ht⟩ := hrel
      have hBk := Nat.le_trans hB hst.size
      have hBk' := Nat.le_trans hB' hst.size
      by_cases hlt : k < n
      · obtain ⟨b, off, rfl, hb, hx⟩ := (h.below (hst.mono hB)).at_ hlt
        have hx : wr.rangeAt b (off + k * 2) (pcells (rs.getD k (0, 0))) := hx
        obtain ⟨b', off', rfl, hb', hy⟩ := (h'.below (hst.mono hB')).at_ hlt
        have hy : wr.rangeAt b' (off' + k * 2) (pcells (rs'.getD k (0, 0))) := hy
        have hlt' : (k : Int) < (n : Int) := by omega
        have hk0 : (0 : Int) ≤ (k : Int) := by omega
        by_cases hq0 : rs.getD k (0, 0) = rs'.getD k (0, 0)
        · have HT := Lib.hid (take_stepP (by have := HL.out; omega) (by have := HL'.out; omega) ht.out hq0)
          have hq : decide (rs.getD k (0, 0) = rs'.getD k (0, 0)) = true := by simpa using hq0
          clear hq0
          generalize rs.getD k (0, 0) = x at hx hq
          generalize rs'.getD k (0, 0) = y at hy hq
          go_wp2_with fail
          refine wp_region_held (S := fun W => Below wr.heap.size wr W) (by kernel_rfl) ?_
          change wpAnyH _ _ _ _ _ _ _ _ wr.drew
          have c0_0 := (Below.refl wr.heap.size wr).drew
          refine Held.tk (v := .func (.func 27) #[] #[]) 0 (some 19) rfl (Held.y_move rfl rfl) c0_0 ?_
          simp only [Act.put, Z1, Z2, Z3]
          refine Held.tk (v := .slice (some ⟨b, off, none⟩) n c) 1 (some 20) rfl (Held.y_move rfl rfl) c0_0 ?_
          simp only [Act.put, Z1, Z2, Z3]
          refine Held.tk (v := .int .i64 (k : Int)) 2 (some 21) rfl (Held.y_move rfl rfl) c0_0 ?_
          simp only [Act.put, Z1, Z2, Z3]
          refine Held.tk (v := .pointer (some ⟨b, off + k * 2, none⟩)) 3 (some 22) rfl (Held.y_addr rfl rfl rfl (run_addr_of 29 39 b off n c k 2 .i64 Tryd.underlying29 (by kernel_rfl) hlt)) c0_0 ?_
          simp only [Act.put, Z1, Z2, Z3]
          refine Held.tk (v := .agg #[.int .i64 x.1, .int .i64 x.2]) 4 (some 23) rfl (y_load_range (n := 2) (cs := (pcells x)) rfl rfl Tryd.underlying39 rfl (by kernel_rfl) rfl (fun W hW => range_below hx hW (Nat.lt_of_lt_of_le hb hBk))) c0_0 ?_
          simp only [Act.put, Z1, Z2, Z3]
          refine Held.tk (v := .slice (some ⟨b', off', none⟩) n c') 5 (some 24) rfl (Held.y_move rfl rfl) c0_0 ?_
          simp only [Act.put, Z1, Z2, Z3]
          refine Held.tk (v := .int .i64 (k : Int)) 6 (some 25) rfl (Held.y_move rfl rfl) c0_0 ?_
          simp only [Act.put, Z1, Z2, Z3]
          refine Held.tk (v := .pointer (some ⟨b', off' + k * 2, none⟩)) 7 (some 26) rfl (Held.y_addr rfl rfl rfl (run_addr_of 29 39 b' off' n c' k 2 .i64 Tryd.underlying29 (by kernel_rfl) hlt)) c0_0 ?_
          simp only [Act.put, Z1, Z2, Z3]
          refine Held.tk (v := .agg #[.int .i64 y.1, .int .i64 y.2]) 8 (some 27) rfl (y_load_range (n := 2) (cs := (pcells y)) rfl rfl Tryd.underlying39 rfl (by kernel_rfl) rfl (fun W hW => range_below hy hW (Nat.lt_of_lt_of_le hb' hBk'))) c0_0 ?_
          simp only [Act.put, Z1, Z2, Z3]
          refine Held.one 9 (by kernel_rfl) ?_
          refine Rs.op_callv 9 (some 28) 27 #[] #[.agg #[.int .i64 x.1, .int .i64 x.2], .agg #[.int .i64 y.1, .int .i64 y.2]] rfl rfl rfl rfl rfl (enters_of Tryd.func27 (by kernel_rfl) rfl) (by simp [Act.eval])
            (by have := eqp_any x y wr.drew; rwa [hq] at this) ?_
          rintro e w1 ⟨rfl, b1⟩
          have c0_1 := c0_0.trans (b1.mono c0_0.size)
          refine ⟨_, rfl, c0_1, ?_⟩
          simp only [Act.put, Z1, Z2, Z3]
          refine Held.tk (v := .bool false) 10 (some 29) rfl (Held.y_not rfl rfl rfl) c0_1 ?_
          simp only [Act.put, Z1, Z2, Z3]
          refine wpAnyH_done (by kernel_rfl) ?_ _
          have dz := hst.trans (c0_1.mono hst.size)
          generalize w1 = wz at dz ⊢
          clear hx hy c0_1
          go_wp2_with fail
          go_roundw
          case rel => exact ⟨k + 1, by omega, by go_num, dz, HT⟩
          case measure => simp [intOf]; omega
        · have HF := Lib.hid (show decide (rs = rs') = false by
            rw [decide_eq_false_iff_not]; intro e; exact hq0 (by rw [e]))
          have hq : decide (rs.getD k (0, 0) = rs'.getD k (0, 0)) = false := by simpa using hq0
          clear hq0
          generalize rs.getD k (0, 0) = x at hx hq
          generalize rs'.getD k (0, 0) = y at hy hq
          go_wp2_with fail
          refine wp_region_held (S := fun W => Below wr.heap.size wr W) (by kernel_rfl) ?_
          change wpAnyH _ _ _ _ _ _ _ _ wr.drew
          have c0_0 := (Below.refl wr.heap.size wr).drew
          refine Held.tk (v := .func (.func 27) #[] #[]) 0 (some 19) rfl (Held.y_move rfl rfl) c0_0 ?_
          simp only [Act.put, Z1, Z2, Z3]
          refine Held.tk (v := .slice (some ⟨b, off, none⟩) n c) 1 (some 20) rfl (Held.y_move rfl rfl) c0_0 ?_
          simp only [Act.put, Z1, Z2, Z3]
          refine Held.tk (v := .int .i64 (k : Int)) 2 (some 21) rfl (Held.y_move rfl rfl) c0_0 ?_
          simp only [Act.put, Z1, Z2, Z3]
          refine Held.tk (v := .pointer (some ⟨b, off + k * 2, none⟩)) 3 (some 22) rfl (Held.y_addr rfl rfl rfl (run_addr_of 29 39 b off n c k 2 .i64 Tryd.underlying29 (by kernel_rfl) hlt)) c0_0 ?_
          simp only [Act.put, Z1, Z2, Z3]
          refine Held.tk (v := .agg #[.int .i64 x.1, .int .i64 x.2]) 4 (some 23) rfl (y_load_range (n := 2) (cs := (pcells x)) rfl rfl Tryd.underlying39 rfl (by kernel_rfl) rfl (fun W hW => range_below hx hW (Nat.lt_of_lt_of_le hb hBk))) c0_0 ?_
          simp only [Act.put, Z1, Z2, Z3]
          refine Held.tk (v := .slice (some ⟨b', off', none⟩) n c') 5 (some 24) rfl (Held.y_move rfl rfl) c0_0 ?_
          simp only [Act.put, Z1, Z2, Z3]
          refine Held.tk (v := .int .i64 (k : Int)) 6 (some 25) rfl (Held.y_move rfl rfl) c0_0 ?_
          simp only [Act.put, Z1, Z2, Z3]
          refine Held.tk (v := .pointer (some ⟨b', off' + k * 2, none⟩)) 7 (some 26) rfl (Held.y_addr rfl rfl rfl (run_addr_of 29 39 b' off' n c' k 2 .i64 Tryd.underlying29 (by kernel_rfl) hlt)) c0_0 ?_
          simp only [Act.put, Z1, Z2, Z3]
          refine Held.tk (v := .agg #[.int .i64 y.1, .int .i64 y.2]) 8 (some 27) rfl (y_load_range (n := 2) (cs := (pcells y)) rfl rfl Tryd.underlying39 rfl (by kernel_rfl) rfl (fun W hW => range_below hy hW (Nat.lt_of_lt_of_le hb' hBk'))) c0_0 ?_
          simp only [Act.put, Z1, Z2, Z3]
          refine Held.one 9 (by kernel_rfl) ?_
          refine Rs.op_callv 9 (some 28) 27 #[] #[.agg #[.int .i64 x.1, .int .i64 x.2], .agg #[.int .i64 y.1, .int .i64 y.2]] rfl rfl rfl rfl rfl (enters_of Tryd.func27 (by kernel_rfl) rfl) (by simp [Act.eval])
            (by have := eqp_any x y wr.drew; rwa [hq] at this) ?_
          rintro e w1 ⟨rfl, b1⟩
          have c0_1 := c0_0.trans (b1.mono c0_0.size)
          refine ⟨_, rfl, c0_1, ?_⟩
          simp only [Act.put, Z1, Z2, Z3]
          refine Held.tk (v := .bool true) 10 (some 29) rfl (Held.y_not rfl rfl rfl) c0_1 ?_
          simp only [Act.put, Z1, Z2, Z3]
          refine wpAnyH_done (by kernel_rfl) ?_ _
          have dz := hst.trans (c0_1.mono hst.size)
          generalize w1 = wz at dz ⊢
          clear hx hy c0_1
          go_wp2_with fail
          go_ret
          exact ⟨Mem.ret_bool HF.out.symm, dz⟩
      · have HF := Lib.hid (show decide (rs = rs') = true by
          have e1 := ht.out
          rw [List.take_of_length_le (by have := HL.out; omega), List.take_of_length_le (by have := HL'.out; omega)] at e1
          simpa using e1)
        go_wp2_with fail
        go_ret
        exact ⟨Mem.ret_bool HF.out.symm, hst⟩
  · have hne : ((n : Int) != (n' : Int)) = true := by simp; omega
    have HF := Lib.hid (show decide (rs = rs') = false by
      rw [decide_eq_false_iff_not]; intro e; exact hnn (by rw [← h.1, ← h'.1, e]))
    clear h h' hnn
    go_enter Tryd.func26, Tryd.ntmps26
    go_wp2_with fail
    go_ret
    exact ⟨Mem.ret_bool HF.out.symm, Below.refl _ _⟩
theorem plain_any (B B' : Nat) (A A' : Option Addr) (n n' c c' : Nat) (rs rs' : List (Int × Int)) (w : World) (h : Lst kP w B A n rs) (h' : Lst kP w B' A' n' rs') (hB : B ≤ w.heap.size) (hB' : B' ≤ w.heap.size) (hn : n ≤ 1073741824) (hn' : n' ≤ 1073741824) :
    Calls Tryd.prog 12 #[.slice A n c, .slice A' n' c'] w fun e w' => e = .returned (.bool (decide (rs = rs'))) ∧ Below w.heap.size w w' := by
  go_enter Tryd.func12, Tryd.ntmps12
  go_wp2_with fail
  refine (same_any B B' A A' n n' c c' rs rs' w h h' hB hB' hn hn').mono ?_
  rintro e w' ⟨rfl, hst⟩
  go_wp2_with fail
  go_ret
  exact ⟨rfl, hst⟩
end Go.Proofs.YtlinmcgmkpkpaaaDoor.Pip
namespace Go.Proofs.YtlinmcgmkpkpaaaDoor.Bi
open Go.RowKit Go.Shelf Go.Proofs.YtlinmcgmkpkpaaaDoor Mem Held Help Go.Proofs.YtlinmcgmkpkpaaaDoor.Range
attribute [local go_sem] Oper.semAt_some
attribute [local irreducible] wpList wpListIn Calls
end Go.Proofs.YtlinmcgmkpkpaaaDoor.Bi
namespace Go.Proofs.YtlinmcgmkpkpaaaDoor.Bi
open Go.RowKit Go.Proofs.YtlinmcgmkpkpaaaDoor Mem
set_option maxRecDepth 100000
def biLaid : List (String × DataW Unit) := [("math/bits.deBruijn32tab", Rows.laid_math_bits_deBruijn32tab), ("math/bits.deBruijn64tab", Rows.laid_math_bits_deBruijn64tab)]
theorem bits_of_laid {w : World} (h : laidMetH Tryd.prog biLaid w) : TzT w := by
  rw [MakeChecks.laidMetH_plain _ _ _ (by kernel_rfl)] at h
  have h2 : Lib.TabIs Tryd.prog w "math/bits.deBruijn64tab" .u8 tzT := Lib.tabIs_of_head (e := 5) (n := 64) (zs := tzT) (t := 145) (g := 1) (by kernel_rfl) (by kernel_rfl) Tryd.underlying145 Tryd.underlying5 (by kernel_rfl) (by kernel_rfl) (laidMet.tail h)
  exact Po.tabK_of_var (by kernel_rfl) h2
end Go.Proofs.YtlinmcgmkpkpaaaDoor.Bi
