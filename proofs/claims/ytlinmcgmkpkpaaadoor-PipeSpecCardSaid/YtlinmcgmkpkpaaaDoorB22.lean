/-
  Package pipe's Run by its contract, told as the document tells a job: by rising keys, each with its values folded in the order in which they came, and finished.
  What stands behind the stages, plainly: as many blocks as there are, each of as many records; behind the first rounds sorted, the last one dead; behind the last ones what is alive stands first.
  The same of package pipe's Run, and how long at most what it tells is.
  The document's own run of operations that emit nothing, by its contract.
  A struct stored, within a region that draws its order, into a list that the call owns: no program here.
-/
import Derived.Test.YtlinmcgmkpkpaaaDoorB21
import Derived.Test.YtlinmcgmkpkpaaaDoorB12
import Derived.Test.YtlinmcgmkpkpaaaDoorB11
import Derived.Test.YtlinmcgmkpkpaaaDoorB20
import Derived.Test.YtlinmcgmkpkpaaaDoorB13
import Derived.Test.YtlinmcgmkpkpaaaDoorB6
set_option linter.unusedVariables false
namespace Go.Proofs.YtlinmcgmkpkpaaaDoor.Pi
open Go.RowKit Go.Shelf Mem Held Ct Rc Rs Sl Vm Sp Mg
attribute [local irreducible] wpList wpListIn Calls
theorem cap_of (r k b S : Nat) (hb : 1 ≤ b) (h : (k : Int) * inI (r : Int) (b : Int) < ((2 ^ S : Nat) : Int)) : r * k < 2 ^ S * b := by
  rcases Nat.eq_zero_or_pos r with h0 | h0
  · subst h0
    have := Nat.two_pow_pos S
    rw [Nat.zero_mul]
    exact Nat.mul_pos this (by omega)
  have e : inI (r : Int) (b : Int) = (((r + b - 1) / b : Nat) : Int) := by
    unfold inI
    rw [Int.natCast_ediv]
    congr 1
    omega
  rw [e, ← Int.natCast_mul] at h
  have h : k * ((r + b - 1) / b) < 2 ^ S := by exact_mod_cast h
  have h1 := Nat.div_add_mod (r + b - 1) b
  have h2 := Nat.mod_lt (r + b - 1) (show b > 0 by omega)
  generalize (r + b - 1) / b = q at *
  have h3 : r ≤ b * q := by omega
  have h4 : r * k ≤ b * q * k := Nat.mul_le_mul_right k h3
  have h5 : b * q * k = k * q * b := by rw [Nat.mul_assoc, Nat.mul_comm, Nat.mul_comm q k]
  have h6 : k * q * b < 2 ^ S * b := Nat.mul_lt_mul_of_pos_right h (by omega)
  omega
end Go.Proofs.YtlinmcgmkpkpaaaDoor.Pi
namespace Go.Proofs.YtlinmcgmkpkpaaaDoor.Pi
open Go.RowKit Go.Shelf Mem Held Ct Rc Rs Sl Vm Sp Mg Cn
theorem stg_shape {k b S n nn : Nat} {m f fi : List O} {ps : List (Int × Int)} (hC : checkB (k : Int) m f fi = true) (hb : 0 < b) (hlen : ps.length = n) (hn : n ≤ 64) (hL : n * k < 2 ^ S * b) (hm : ∀ o ∈ m, o.wf) (hf : ∀ o ∈ f, o.wf) (hfi : ∀ o ∈ fi, o.wf) (hp : ∀ x ∈ ps, pwf x) (h1 : 1 ≤ nn) (h2 : nn ≤ 2 + 2 * Bi.tri S) :
    (∀ x ∈ stgB (k : Int) m f fi ps b (2 ^ S) (Bi.tri S) nn, x.length = b) ∧ (stgB (k : Int) m f fi ps b (2 ^ S) (Bi.tri S) nn).length = 2 ^ S ∧ Wf (stgB (k : Int) m f fi ps b (2 ^ S) (Bi.tri S) nn) ∧
    (nn = 1 + Bi.tri S → srtB true (stgB (k : Int) m f fi ps b (2 ^ S) (Bi.tri S) nn).flatten = true ∧ ∀ x, (stgB (k : Int) m f fi ps b (2 ^ S) (Bi.tri S) nn).flatten.getLast? = some x → x.d = true) ∧
    (nn = 2 + 2 * Bi.tri S → srtB false (stgB (k : Int) m f fi ps b (2 ^ S) (Bi.tri S) nn).flatten = true) := by
  have hLe : ps.length * k ≤ 2 ^ S * b := by rw [hlen]; omega
  have hME := mapB_even (B := b) (S := S) hC hLe
  have hMW := mapB_wf (K := k) (f := f) (e := fi) (B := b) (S := S) hC hLe hm hp (by rw [hlen]; omega)
  have hMN : (mapB (k : Int) m f fi ps b (2 ^ S)).length = 2 ^ S := mapB_length
  have hBE := behB_even (S := S) hME hMN (Nat.le_refl (Bi.tri S))
  have hBW := behB_wf (seq := true) (S := S) hMW hMN (Nat.le_refl (Bi.tri S))
  have hBN : (behB true (2 ^ S) (mapB (k : Int) m f fi ps b (2 ^ S)) (Bi.tri S)).length = 2 ^ S := by rw [behB_length, hMN]
  have hFE := foldC_even (foldV (k : Int) m f fi) (finishV (k : Int) m f fi) RD (behB true (2 ^ S) (mapB (k : Int) m f fi ps b (2 ^ S)) (Bi.tri S)) (fun x hx => (hBE x hx).1)
  have hFW := outs_wfs (F := foldV (k : Int) m f fi) (G := finishV (k : Int) m f fi) (fun a v ha hv => Sp.foldV_wf (K := (k : Int)) (m := m) (e := fi) hf a v ha hv) (fun a v ha hv => Sp.finishV_wf (K := (k : Int)) (m := m) (f := f) hfi a v ha hv) hBW
  have hFN : (foldC (foldV (k : Int) m f fi) (finishV (k : Int) m f fi) RD (behB true (2 ^ S) (mapB (k : Int) m f fi ps b (2 ^ S)) (Bi.tri S))).length = 2 ^ S := by rw [foldC_length, hBN]
  by_cases hc : nn ≤ 1 + Bi.tri S
  · have e : stgB (k : Int) m f fi ps b (2 ^ S) (Bi.tri S) nn = behB true (2 ^ S) (mapB (k : Int) m f fi ps b (2 ^ S)) (nn - 1) := by rw [stgB, if_neg (by omega), if_pos hc]
    rw [e]
    refine ⟨fun x hx => (behB_even (S := S) hME hMN (show nn - 1 ≤ Bi.tri S by omega) x hx).1, by rw [behB_length, hMN], behB_wf (seq := true) (S := S) hMW hMN (show nn - 1 ≤ Bi.tri S by omega), fun h => ?_, fun h => by omega⟩
    rw [show nn - 1 = Bi.tri S by omega]
    refine ⟨srtB_iff.2 (behB_sorts hb hME hMN), fun x hx => ?_⟩
    obtain ⟨A1, ds, hA, hds, h0, _⟩ := first_half (S := S) (B := b) (ps := ps) hC hb (by omega) (by rw [hlen]; exact hL)
    rw [hA, List.getLast?_append] at hx
    cases hd : ds.getLast? with
    | none => exact absurd (List.getLast?_eq_none_iff.1 hd) h0
    | some y =>
      rw [hd] at hx
      obtain rfl : y = x := by simpa using hx
      exact hds _ (List.mem_of_getLast? hd)
  · have e : stgB (k : Int) m f fi ps b (2 ^ S) (Bi.tri S) nn = behB false (2 ^ S) (foldC (foldV (k : Int) m f fi) (finishV (k : Int) m f fi) RD (behB true (2 ^ S) (mapB (k : Int) m f fi ps b (2 ^ S)) (Bi.tri S))) (nn - 2 - Bi.tri S) := by rw [stgB, if_neg (by omega), if_neg hc]
    rw [e]
    have hr : nn - 2 - Bi.tri S ≤ Bi.tri S := by omega
    refine ⟨fun x hx => (behB_even (S := S) hFE hFN hr x hx).1, by rw [behB_length, hFN], behB_wf (seq := false) (S := S) hFW hFN hr, fun h => by omega, fun h => ?_⟩
    rw [show nn - 2 - Bi.tri S = Bi.tri S by omega]
    exact srtB_iff.2 (behB_sorts hb hFE hFN)
end Go.Proofs.YtlinmcgmkpkpaaaDoor.Pi
namespace Go.Proofs.YtlinmcgmkpkpaaaDoor.Pi
open Go.RowKit Go.Shelf Mem Held Ct Rc Rs Sl Vm Sp Mg
attribute [local irreducible] wpList wpListIn Calls
set_option maxHeartbeats 4000000 in
theorem run_told2 (B k b n : Nat) (wk : Int) (A1 A2 A3 A : Option Addr) (n1 c1 n2 c2 n3 c3 c : Nat) (m f fi : List O) (ps : List (Int × Int)) (w : World)
    (h1 : Lst kO w B A1 n1 m) (h2 : Lst kO w B A2 n2 f) (h3 : Lst kO w B A3 n3 fi) (hp : Lst kP w B A n ps) (hB : B ≤ w.heap.size) (hC : checkB (k : Int) m f fi = true) (hR : rightB (n : Int) (k : Int) (b : Int) wk = true) (hT : Bi.TzT w) :
    Calls Tryd.prog 9 #[.agg #[.int .i64 (k : Int), .slice A1 n1 c1, .slice A2 n2 c2, .slice A3 n3 c3], .agg #[.int .i64 (n : Int), .int .i64 (k : Int), .int .i64 (b : Int), .int .i64 wk], .slice A n c] w fun e w' => ∃ v X, e = .returned (.tuple #[v, .int .i64 0]) ∧ OwnL kP 39 w' w.heap.size v (X.map fun p => (p.1, finishV (k : Int) m f fi p.1 p.2)) ∧
      (∀ x ∈ X.map fun p => (p.1, finishV (k : Int) m f fi p.1 p.2), pwf x) ∧ IsTold (foldV (k : Int) m f fi) (Sp.live (k : Int) m f fi ps) X ∧ X.length ≤ 256 ∧ Below w.heap.size w w' := by
  obtain ⟨S, hS1, hS5, hM, hS, hk⟩ := all_says hR
  obtain ⟨⟨_, hn⟩, _, ⟨hb1, hb8⟩, _, _⟩ := right_says hR
  have hL := cap_of n k b S (by omega) hk
  obtain ⟨X, hX, hX2⟩ := pipe_told (ps := ps) (m := m) (f := f) (e := fi) (K := k) (B := b) (S := S) hC (by omega) (by rw [hp.1]; omega) (by rw [hp.1]; exact hL)
  have hlen : X.length ≤ 256 := by
    obtain ⟨hz, hbl, _⟩ := stg_shape (nn := 2 + 2 * Bi.tri S) hC (by omega) hp.1 (by omega) hL h1.2.1 h2.2.1 h3.2.1 hp.2.1 (by omega) (Nat.le_refl _)
    have e := flat_len hz _ (Nat.le_refl _)
    rw [List.take_length, hbl] at e
    have l1 := List.length_filter_le (fun r : R => !r.d) (stgB (k : Int) m f fi ps b (2 ^ S) (Bi.tri S) (2 + 2 * Bi.tri S)).flatten
    have l2 : (tellP (stgB (k : Int) m f fi ps b (2 ^ S) (Bi.tri S) (2 + 2 * Bi.tri S))).length = X.length := by rw [hX2, List.length_map]
    rw [tellP, List.length_map] at l2
    have hM32 : 2 ^ S ≤ 32 := Nat.pow_le_pow_right (n := 2) (i := S) (by omega) hS5
    have h8 : 2 ^ S * b ≤ 32 * 8 := Nat.mul_le_mul hM32 (by omega)
    omega
  refine (run_ok B k b S (Bi.tri S) wk A1 A2 A3 A n1 c1 n2 c2 n3 c3 n c m f fi ps w h1 h2 h3 hp hB hC hR hM hS5 rfl hL hT).mono ?_
  rintro e w' ⟨v, rfl, o1, w1, b1⟩
  rw [hX2] at o1 w1
  exact ⟨v, X, rfl, o1, w1, hX, hlen, b1⟩
end Go.Proofs.YtlinmcgmkpkpaaaDoor.Pi
namespace Go.Proofs.YtlinmcgmkpkpaaaDoor.Cn
open Go.RowKit Go.Shelf Go.Proofs.YtlinmcgmkpkpaaaDoor Mem Held Ct Rc Rs Sl Vm
attribute [local irreducible] wpList wpListIn Calls
theorem size_i64 : (Tryd.prog.info? 2).map (·.size) = some 1 := by kernel_rfl
theorem zero_regs : (Tryd.prog.info? 75).bind (·.zero) = some (.agg (arr .i64 (List.replicate 8 0))) := by kernel_rfl
theorem info_regs : (Tryd.prog.info? 75).map (·.size) = some 8 := by kernel_rfl
theorem low6s (b : Int) (hb : (Lit.int .i64 b).wf = true) : bits .and .i64 b 63 = (((b % 64).toNat : Nat) : Int) := by
  have h := low6 b hb
  have e : BitVec.ofInt 64 (IntKind.u64.wrap b) = BitVec.ofInt 64 b := by
    apply BitVec.eq_of_toInt_eq
    rw [IntKind.wrap_u64]
    simp only [BitVec.toInt_ofInt]
    exact Int.emod_bmod ..
  obtain ⟨x, hx⟩ : ∃ x : BitVec 64, BitVec.ofInt 64 b &&& BitVec.ofInt 64 63 = x := ⟨_, rfl⟩
  have h : IntKind.u64.wrap ((BitVec.ofInt 64 (IntKind.u64.wrap b) &&& BitVec.ofInt 64 63).toNat : Int) = (((b % 64).toNat : Nat) : Int) := h
  rw [e, hx, IntKind.wrap_u64] at h
  show IntKind.i64.wrap ((BitVec.ofInt 64 b &&& BitVec.ofInt 64 63).toNat : Int) = _
  rw [hx, IntKind.wrap_i64]
  have hxl : x.toNat < 18446744073709551616 := x.isLt
  omega
theorem rone_i64 (b : Bool) (w : World) : Calls Tryd.prog 50 #[.bool b] w fun e w' => e = .returned (.int .i64 (oneI b)) ∧ Below w.heap.size w w' := by
  cases b
  all_goals
    go_enter Tryd.func50, Tryd.ntmps50
    go_wp2
    go_ret
    exact ⟨rfl, Below.refl _ _⟩
set_option maxRecDepth 100000 in
set_option maxHeartbeats 32000000 in
theorem rrun_any (B : Nat) (A : Option Addr) (n c : Nat) (xs : List O) (rs0 : List Int) (w : World) (h : Lst kO w B A n xs) (hB : B ≤ w.heap.size) (h8 : rs0.length = 8) (hf : Fit rs0) (hm : ∀ x ∈ xs, mayO x 0 = true) (hn : n ≤ 1048576) :
    Calls Tryd.prog 38 #[.slice A n c, .agg (arr .i64 rs0), .slice none 0 0, .int .i64 0] w fun e w' => e = .returned (.tuple #[.agg (arr .i64 (runR xs rs0)), .slice none 0 0]) ∧ Below w.heap.size w w' := by
  have HL := Lib.hid h.1
  have HRL := Lib.hid (fun l => (runR_length l rs0).trans h8)
  have HRF := Lib.hid (fun i => Fit.run hf (l := xs.take i) (fun o ho => h.2.1 o (List.mem_of_mem_take ho)))
  have HMX := Lib.hid (fun i (hi : i < n) => hm (xs.getD i O0) (by rw [List.getD_eq_getElem?_getD, List.getElem?_eq_getElem (by rw [h.1]; exact hi)]; exact List.getElem_mem _))
  have HSN := Lib.hid (fun i (hi : i < n) => show runR (xs.take (i + 1)) rs0 = stepR (xs.getD i O0) (runR (xs.take i) rs0) by
    have hi' : i < xs.length := by rw [h.1]; exact hi
    rw [List.take_add_one, List.getElem?_eq_getElem hi', runR_append, List.getD_eq_getElem?_getD, List.getElem?_eq_getElem hi']
    rfl)
  clear hm
  go_enter Tryd.func38, Tryd.ntmps38
  go_wp2_with (first
    | (refine wpList_box_Row (w := w) rfl 75 _ rfl .i64 rs0 rfl hf ?_; intro u1 r1 g1 z1)
    | (refine wpList_alloc_Row (w := u1) rfl 75 rfl .i64 8 zero_regs ?_; intro u2 r2 g2 z2))
  have b2 : Below w.heap.size w u2 := ((Below.refl _ w).grown g1 (Nat.le_refl _) (by simp)).grown g2 g1.size (by simp)
  have l1 : w.heap.size < u1.heap.size := r1.lt
  have r1 := r1.grown g2 (by simp)
  clear g1 g2 z1 z2 hf h8
  go_loopw [10] (fun t wr => ∃ i : Nat, i ≤ n ∧ t = .int .i64 i ∧ Row wr w.heap.size 75 .i64 (runR (xs.take i) rs0) ∧ Row wr u1.heap.size 75 .i64 (List.replicate 8 0) ∧ Below w.heap.size w wr) (fun t _ => n - (intOf t).toNat)
  case atStart => exact ⟨0, by omega, rfl, r1, r2, b2⟩
  case round =>
    clear r1 r2 b2
    obtain ⟨i, hi, rfl, qr, q2, bw⟩ := hrel
    by_cases hlt : i < n
    · obtain ⟨b, off, rfl, hb1, hx⟩ := (h.below (bw.mono hB)).at_ hlt
      have hx : wr.rangeAt b (off + i * 6) (xs.getD i O0).cells := hx
      have hwo : (xs.getD i O0).wf := h.wf_at hlt
      obtain ⟨hc1, hc12, ⟨hd0, hd8⟩, ⟨ha0, ha8⟩, ⟨hb0, hb8⟩, ⟨hcc0, hcc8⟩, he⟩ := mayO_says (HMX.out i hlt)
      have HNX := Lib.hid (HSN.out i hlt)
      have HFT := HRF.out i
      have HL8 := Lib.hid (HRL.out (xs.take i))
      generalize runR (xs.take i) rs0 = zs at qr HNX HFT HL8
      generalize xs.getD i O0 = x at *
      obtain ⟨code, rd, ra, rb, rc, nn⟩ := x
      dsimp only at *
      have hnn : (Lit.int .i64 nn).wf = true := hwo.2.2.2.2.2
      clear hwo
      have hc11 : code ≤ 11 := by
        by_cases h12 : code = 12
        · have := he h12; omega
        · omega
      clear hc12 he
      obtain ⟨rd, rfl⟩ := Int.eq_ofNat_of_zero_le hd0
      obtain ⟨ra, rfl⟩ := Int.eq_ofNat_of_zero_le ha0
      obtain ⟨rb, rfl⟩ := Int.eq_ofNat_of_zero_le hb0
      obtain ⟨rc, rfl⟩ := Int.eq_ofNat_of_zero_le hcc0
      have hrd : rd < 8 := by omega
      have hra : ra < 8 := by omega
      have hrb : rb < 8 := by omega
      have hrc : rc < 8 := by omega
      have hx : wr.rangeAt b (off + i * 6) [.int .i64 code, .int .i64 (rd : Int), .int .i64 (ra : Int), .int .i64 (rb : Int), .int .i64 (rc : Int), .int .i64 nn] := hx
      obtain ⟨a, hae⟩ : ∃ a, zs.getD ra 0 = a := ⟨_, rfl⟩
      obtain ⟨bv, hbe⟩ : ∃ bv, zs.getD rb 0 = bv := ⟨_, rfl⟩
      obtain ⟨cv, hce⟩ : ∃ cv, zs.getD rc 0 = cv := ⟨_, rfl⟩
      have hav : (Lit.int .i64 a).wf = true := hae ▸ HFT.at_ ra
      have hbv : (Lit.int .i64 bv).wf = true := hbe ▸ HFT.at_ rb
      have hcv : (Lit.int .i64 cv).wf = true := hce ▸ HFT.at_ rc
      have HS := Lib.hid (fun j (hj : code = j) => show stepR ⟨code, rd, ra, rb, rc, nn⟩ zs = zs.set rd (opV ⟨j, rd, ra, rb, rc, nn⟩ a bv cv) by
        rw [stepR, if_neg (by dsimp only; omega), ← hj]
        dsimp only
        rw [reg, reg, reg, Int.toNat_natCast, Int.toNat_natCast, Int.toNat_natCast, Int.toNat_natCast, hae, hbe, hce])
      have Hra := Lib.hid hae
      have Hrb := Lib.hid hbe
      have Hrc := Lib.hid hce
      have hww : w.heap.size < wr.heap.size := qr.lt
      have HBW := Lib.hid (fun X (hX : Below wr.heap.size wr X) => bw.trans (hX.mono bw.size))
      have HBQ := Lib.hid (fun X (hX : Below wr.heap.size wr X) => q2.below hX q2.lt)
      have hlt' : (i : Int) < (n : Int) := by omega
      have hi0 : (0 : Int) ≤ (i : Int) := by omega
      clear hd0 hd8 ha0 ha8 hb0 hb8 hcc0 hcc8 hae hbe hce HFT bw q2
      go_wp2_with (first
        | (refine wpList_run (w := wr) rfl (v := .pointer (some ⟨b, off + i * 6, none⟩)) (Held.y_addr (S := fun _ => True) rfl rfl rfl (run_addr_of (P := Tryd.prog) 24 58 b off n c i 6 .i64 Tryd.underlying24 size_op hlt) _ trivial) ?_)
        | (refine wpList_run (w := wr) rfl (v := .agg #[.int .i64 code, .int .i64 (rd : Int), .int .i64 (ra : Int), .int .i64 (rb : Int), .int .i64 (rc : Int), .int .i64 nn]) (y_load_range (S := fun W => W = wr) (n := 6) (cs := [.int .i64 code, .int .i64 (rd : Int), .int .i64 (ra : Int), .int .i64 (rb : Int), .int .i64 (rc : Int), .int .i64 nn]) rfl rfl Tryd.underlying58 rfl size_op rfl (fun W hW => by rw [hW]; exact hx) _ rfl) ?_)
        | (refine wpList_alloc_blk (w := wr) rfl 58 rfl _ zero_op ?_; intro v2 q2 g2 z2)
        | (refine wpList_store_blk (w := v2) rfl 58 _ _ rfl wr.heap.size 6 rfl 58 _ #[.int .i64 code, .int .i64 (rd : Int), .int .i64 (ra : Int), .int .i64 (rb : Int), .int .i64 (rc : Int), .int .i64 nn] rfl q2 size_op rfl rfl (by kernel_rfl) ?_; intro w8 q8 g3 z3; have b8 : Below wr.heap.size wr w8 := ((Below.refl _ wr).grown g2 (Nat.le_refl _) (by simp)).grown g3 g2.size (fun r e => by cases e; exact Nat.le_refl _); clear g2 g3 z2 z3 q2))
      have qr8 := qr.below b8 qr.lt
      have hr8 := q8.lt
      refine wp_region_held (S := fun W => Below w8.heap.size w8 W) (by kernel_rfl) ?_
      change wpAnyH _ _ _ _ _ _ _ _ w8.drew
      have c0_0 := (Below.refl w8.heap.size w8).drew
      refine Held.tk (v := .pointer (some ⟨wr.heap.size, 2, none⟩)) 0 (some 25) rfl (Held.y_field (k := 2) (s := 0) rfl rfl Tryd.underlying58 rfl (by kernel_rfl) rfl) c0_0 ?_
      simp only [Act.put, Z1, Z2, Z3]
      refine Held.tk (v := .int .i64 (ra : Int)) 1 (some 26) rfl (Held.y_load rfl rfl (by kernel_rfl) (fun X hX => (q8.below hX hr8).cell (i := 2) rfl)) c0_0 ?_
      simp only [Act.put, Z1, Z2, Z3]
      refine Held.tk (v := .pointer (some ⟨w.heap.size, ra, none⟩)) 2 (some 27) rfl (Held.y_addr rfl rfl rfl (Held.run_addr_arr 75 2 8 w.heap.size ra .i64 Tryd.underlying75 (by kernel_rfl) hra)) c0_0 ?_
      simp only [Act.put, Z1, Z2, Z3]
      refine Held.tk (v := .int .i64 a) 3 (some 28) rfl (Held.y_load rfl rfl (by kernel_rfl) (fun X hX => by rw [← Hra.out]; exact (qr8.below hX qr8.lt).cell (by rw [HL8.out]; exact hra))) c0_0 ?_
      simp only [Act.put, Z1, Z2, Z3]
      refine Held.tk (v := .pointer (some ⟨wr.heap.size, 3, none⟩)) 4 (some 29) rfl (Held.y_field (k := 3) (s := 0) rfl rfl Tryd.underlying58 rfl (by kernel_rfl) rfl) c0_0 ?_
      simp only [Act.put, Z1, Z2, Z3]
      refine Held.tk (v := .int .i64 (rb : Int)) 5 (some 30) rfl (Held.y_load rfl rfl (by kernel_rfl) (fun X hX => (q8.below hX hr8).cell (i := 3) rfl)) c0_0 ?_
      simp only [Act.put, Z1, Z2, Z3]
      refine Held.tk (v := .pointer (some ⟨w.heap.size, rb, none⟩)) 6 (some 31) rfl (Held.y_addr rfl rfl rfl (Held.run_addr_arr 75 2 8 w.heap.size rb .i64 Tryd.underlying75 (by kernel_rfl) hrb)) c0_0 ?_
      simp only [Act.put, Z1, Z2, Z3]
      refine Held.tk (v := .int .i64 bv) 7 (some 32) rfl (Held.y_load rfl rfl (by kernel_rfl) (fun X hX => by rw [← Hrb.out]; exact (qr8.below hX qr8.lt).cell (by rw [HL8.out]; exact hrb))) c0_0 ?_
      simp only [Act.put, Z1, Z2, Z3]
      refine Held.tk (v := .pointer (some ⟨wr.heap.size, 4, none⟩)) 8 (some 33) rfl (Held.y_field (k := 4) (s := 0) rfl rfl Tryd.underlying58 rfl (by kernel_rfl) rfl) c0_0 ?_
      simp only [Act.put, Z1, Z2, Z3]
      refine Held.tk (v := .int .i64 (rc : Int)) 9 (some 34) rfl (Held.y_load rfl rfl (by kernel_rfl) (fun X hX => (q8.below hX hr8).cell (i := 4) rfl)) c0_0 ?_
      simp only [Act.put, Z1, Z2, Z3]
      refine Held.tk (v := .pointer (some ⟨w.heap.size, rc, none⟩)) 10 (some 35) rfl (Held.y_addr rfl rfl rfl (Held.run_addr_arr 75 2 8 w.heap.size rc .i64 Tryd.underlying75 (by kernel_rfl) hrc)) c0_0 ?_
      simp only [Act.put, Z1, Z2, Z3]
      refine Held.tk (v := .int .i64 cv) 11 (some 36) rfl (Held.y_load rfl rfl (by kernel_rfl) (fun X hX => by rw [← Hrc.out]; exact (qr8.below hX qr8.lt).cell (by rw [HL8.out]; exact hrc))) c0_0 ?_
      simp only [Act.put, Z1, Z2, Z3]
      refine Held.tk (v := .int .i64 a) 12 (some 12) rfl (Held.y_assign rfl rfl) c0_0 ?_
      simp only [Act.put, Z1, Z2, Z3]
      refine Held.tk (v := .int .i64 bv) 13 (some 13) rfl (Held.y_assign rfl rfl) c0_0 ?_
      simp only [Act.put, Z1, Z2, Z3]
      refine Held.tk (v := .int .i64 cv) 14 (some 14) rfl (Held.y_assign rfl rfl) c0_0 ?_
      simp only [Act.put, Z1, Z2, Z3]
      refine wpAnyH_done (by kernel_rfl) ?_ _
      have q9 := q8.below c0_0 hr8
      have qr9 := qr8.below c0_0 qr8.lt
      have b9 := b8.trans (c0_0.mono b8.size)
      generalize w8.drew = w9 at q9 qr9 b9 ⊢
      clear q8 qr8 c0_0 b8 hx qr
      have d0 := q9.cell (i := 0) rfl
      have d1 := q9.cell (i := 1) rfl
      have d5 := q9.cell (i := 5) rfl
      rcases (show code = 1 ∨ code = 2 ∨ code = 3 ∨ code = 4 ∨ code = 5 ∨ code = 6 ∨ code = 7 ∨ code = 8 ∨ code = 9 ∨ code = 10 ∨ code = 11 by omega) with rfl | rfl | rfl | rfl | rfl | rfl | rfl | rfl | rfl | rfl | rfl
      · have HST := Lib.hid (HS.out 1 rfl)
        clear HS
        have HZW := Lib.hid hnn
        have HST := Lib.hid (HST.out.trans (show zs.set rd (opV ⟨1, rd, ra, rb, rc, nn⟩ a bv cv) = zs.set rd nn from rfl))
        go_wp2_with (first
          | (refine wpList_run (w := w9) rfl (v := .pointer (some ⟨wr.heap.size, 0, none⟩)) (Held.y_field (S := fun _ => True) (k := 0) (s := 0) rfl rfl Tryd.underlying58 rfl (by kernel_rfl) rfl _ trivial) ?_)
          | (refine wpList_run (w := w9) rfl (v := .pointer (some ⟨wr.heap.size, 1, none⟩)) (Held.y_field (S := fun _ => True) (k := 1) (s := 0) rfl rfl Tryd.underlying58 rfl (by kernel_rfl) rfl _ trivial) ?_)
          | (refine wpList_run (w := w9) rfl (v := .pointer (some ⟨wr.heap.size, 5, none⟩)) (Held.y_field (S := fun _ => True) (k := 5) (s := 0) rfl rfl Tryd.underlying58 rfl (by kernel_rfl) rfl _ trivial) ?_)
          | (refine wpList_run (w := w9) rfl (v := .pointer (some ⟨w.heap.size, rd, none⟩)) (Held.y_addr (S := fun _ => True) rfl rfl rfl (Held.run_addr_arr (P := Tryd.prog) 75 2 8 w.heap.size rd .i64 Tryd.underlying75 (by kernel_rfl) hrd) _ trivial) ?_)
          | (refine wpList_store_elem (w := w9) rfl 2 _ _ rfl w.heap.size rd rfl 75 .i64 _ nn rfl qr9 (by rw [HL8.out]; exact hrd) size_i64 HZW.out ?_; intro w10 qz g10 z10))
        have c10 := (HBW.out _ b9).grown g10 (HBW.out _ b9).size (fun r ee => by cases ee; exact Nat.le_refl _)
        have q10 := (HBQ.out _ b9).grown g10 (by intro ee; injection ee with ee; omega)
        go_roundw
        case rel => exact ⟨i + 1, by omega, by go_num, by rw [HNX.out, HST.out]; exact qz, q10, c10⟩
        case measure => simp [intOf]; omega
      · have HST := Lib.hid (HS.out 2 rfl)
        clear HS
        obtain ⟨z, hz⟩ : ∃ z, IntKind.i64.wrap (a + bv) = z := ⟨_, rfl⟩
        have HZ := Lib.hid hz
        have HZW := Lib.hid (show (Lit.int .i64 z).wf = true from hz ▸ i64_wf _)
        have HST := Lib.hid (HST.out.trans (show zs.set rd (opV ⟨2, rd, ra, rb, rc, nn⟩ a bv cv) = zs.set rd z by rw [← hz, w64]; rfl))
        clear hz
        go_wp2_with (first
          | (refine wpList_run (w := w9) rfl (v := .pointer (some ⟨wr.heap.size, 0, none⟩)) (Held.y_field (S := fun _ => True) (k := 0) (s := 0) rfl rfl Tryd.underlying58 rfl (by kernel_rfl) rfl _ trivial) ?_)
          | (refine wpList_run (w := w9) rfl (v := .pointer (some ⟨wr.heap.size, 1, none⟩)) (Held.y_field (S := fun _ => True) (k := 1) (s := 0) rfl rfl Tryd.underlying58 rfl (by kernel_rfl) rfl _ trivial) ?_)
          | (refine wpList_run (w := w9) rfl (v := .pointer (some ⟨wr.heap.size, 5, none⟩)) (Held.y_field (S := fun _ => True) (k := 5) (s := 0) rfl rfl Tryd.underlying58 rfl (by kernel_rfl) rfl _ trivial) ?_)
          | (refine wpList_run (w := w9) rfl (v := .int .i64 z) (Held.y_int (S := fun _ => True) rfl rfl rfl (Held.run_add 2 .i64 HZ.out) _ trivial) ?_)
          | (refine wpList_run (w := w9) rfl (v := .pointer (some ⟨w.heap.size, rd, none⟩)) (Held.y_addr (S := fun _ => True) rfl rfl rfl (Held.run_addr_arr (P := Tryd.prog) 75 2 8 w.heap.size rd .i64 Tryd.underlying75 (by kernel_rfl) hrd) _ trivial) ?_)
          | (refine wpList_store_elem (w := w9) rfl 2 _ _ rfl w.heap.size rd rfl 75 .i64 _ z rfl qr9 (by rw [HL8.out]; exact hrd) size_i64 HZW.out ?_; intro w10 qz g10 z10))
        have c10 := (HBW.out _ b9).grown g10 (HBW.out _ b9).size (fun r ee => by cases ee; exact Nat.le_refl _)
        have q10 := (HBQ.out _ b9).grown g10 (by intro ee; injection ee with ee; omega)
        go_roundw
        case rel => exact ⟨i + 1, by omega, by go_num, by rw [HNX.out, HST.out]; exact qz, q10, c10⟩
        case measure => simp [intOf]; omega
      · have HST := Lib.hid (HS.out 3 rfl)
        clear HS
        obtain ⟨z, hz⟩ : ∃ z, IntKind.i64.wrap (a - bv) = z := ⟨_, rfl⟩
        have HZ := Lib.hid hz
        have HZW := Lib.hid (show (Lit.int .i64 z).wf = true from hz ▸ i64_wf _)
        have HST := Lib.hid (HST.out.trans (show zs.set rd (opV ⟨3, rd, ra, rb, rc, nn⟩ a bv cv) = zs.set rd z by rw [← hz, w64]; rfl))
        clear hz
        go_wp2_with (first
          | (refine wpList_run (w := w9) rfl (v := .pointer (some ⟨wr.heap.size, 0, none⟩)) (Held.y_field (S := fun _ => True) (k := 0) (s := 0) rfl rfl Tryd.underlying58 rfl (by kernel_rfl) rfl _ trivial) ?_)
          | (refine wpList_run (w := w9) rfl (v := .pointer (some ⟨wr.heap.size, 1, none⟩)) (Held.y_field (S := fun _ => True) (k := 1) (s := 0) rfl rfl Tryd.underlying58 rfl (by kernel_rfl) rfl _ trivial) ?_)
          | (refine wpList_run (w := w9) rfl (v := .pointer (some ⟨wr.heap.size, 5, none⟩)) (Held.y_field (S := fun _ => True) (k := 5) (s := 0) rfl rfl Tryd.underlying58 rfl (by kernel_rfl) rfl _ trivial) ?_)
          | (refine wpList_run (w := w9) rfl (v := .int .i64 z) (Held.y_int (S := fun _ => True) rfl rfl rfl (Held.run_sub 2 .i64 HZ.out) _ trivial) ?_)
          | (refine wpList_run (w := w9) rfl (v := .pointer (some ⟨w.heap.size, rd, none⟩)) (Held.y_addr (S := fun _ => True) rfl rfl rfl (Held.run_addr_arr (P := Tryd.prog) 75 2 8 w.heap.size rd .i64 Tryd.underlying75 (by kernel_rfl) hrd) _ trivial) ?_)
          | (refine wpList_store_elem (w := w9) rfl 2 _ _ rfl w.heap.size rd rfl 75 .i64 _ z rfl qr9 (by rw [HL8.out]; exact hrd) size_i64 HZW.out ?_; intro w10 qz g10 z10))
        have c10 := (HBW.out _ b9).grown g10 (HBW.out _ b9).size (fun r ee => by cases ee; exact Nat.le_refl _)
        have q10 := (HBQ.out _ b9).grown g10 (by intro ee; injection ee with ee; omega)
        go_roundw
        case rel => exact ⟨i + 1, by omega, by go_num, by rw [HNX.out, HST.out]; exact qz, q10, c10⟩
        case measure => simp [intOf]; omega
      · have HST := Lib.hid (HS.out 4 rfl)
        clear HS
        obtain ⟨z, hz⟩ : ∃ z, IntKind.i64.wrap (a * bv) = z := ⟨_, rfl⟩
        have HZ := Lib.hid hz
        have HZW := Lib.hid (show (Lit.int .i64 z).wf = true from hz ▸ i64_wf _)
        have HST := Lib.hid (HST.out.trans (show zs.set rd (opV ⟨4, rd, ra, rb, rc, nn⟩ a bv cv) = zs.set rd z by rw [← hz, w64]; rfl))
        clear hz
        go_wp2_with (first
          | (refine wpList_run (w := w9) rfl (v := .pointer (some ⟨wr.heap.size, 0, none⟩)) (Held.y_field (S := fun _ => True) (k := 0) (s := 0) rfl rfl Tryd.underlying58 rfl (by kernel_rfl) rfl _ trivial) ?_)
          | (refine wpList_run (w := w9) rfl (v := .pointer (some ⟨wr.heap.size, 1, none⟩)) (Held.y_field (S := fun _ => True) (k := 1) (s := 0) rfl rfl Tryd.underlying58 rfl (by kernel_rfl) rfl _ trivial) ?_)
          | (refine wpList_run (w := w9) rfl (v := .pointer (some ⟨wr.heap.size, 5, none⟩)) (Held.y_field (S := fun _ => True) (k := 5) (s := 0) rfl rfl Tryd.underlying58 rfl (by kernel_rfl) rfl _ trivial) ?_)
          | (refine wpList_run (w := w9) rfl (v := .int .i64 z) (Held.y_int (S := fun _ => True) rfl rfl rfl (Held.run_mul 2 .i64 HZ.out) _ trivial) ?_)
          | (refine wpList_run (w := w9) rfl (v := .pointer (some ⟨w.heap.size, rd, none⟩)) (Held.y_addr (S := fun _ => True) rfl rfl rfl (Held.run_addr_arr (P := Tryd.prog) 75 2 8 w.heap.size rd .i64 Tryd.underlying75 (by kernel_rfl) hrd) _ trivial) ?_)
          | (refine wpList_store_elem (w := w9) rfl 2 _ _ rfl w.heap.size rd rfl 75 .i64 _ z rfl qr9 (by rw [HL8.out]; exact hrd) size_i64 HZW.out ?_; intro w10 qz g10 z10))
        have c10 := (HBW.out _ b9).grown g10 (HBW.out _ b9).size (fun r ee => by cases ee; exact Nat.le_refl _)
        have q10 := (HBQ.out _ b9).grown g10 (by intro ee; injection ee with ee; omega)
        go_roundw
        case rel => exact ⟨i + 1, by omega, by go_num, by rw [HNX.out, HST.out]; exact qz, q10, c10⟩
        case measure => simp [intOf]; omega
      · have HST := Lib.hid (HS.out 5 rfl)
        clear HS
        obtain ⟨z, hz⟩ : ∃ z, bits .and .i64 a bv = z := ⟨_, rfl⟩
        have HZ := Lib.hid hz
        have HZW := Lib.hid (show (Lit.int .i64 z).wf = true from hz ▸ bits_wf' _ (.inl rfl) _ _)
        have HST := Lib.hid (HST.out.trans (show zs.set rd (opV ⟨5, rd, ra, rb, rc, nn⟩ a bv cv) = zs.set rd z by rw [← hz]; rfl))
        clear hz
        go_wp2_with (first
          | (refine wpList_run (w := w9) rfl (v := .pointer (some ⟨wr.heap.size, 0, none⟩)) (Held.y_field (S := fun _ => True) (k := 0) (s := 0) rfl rfl Tryd.underlying58 rfl (by kernel_rfl) rfl _ trivial) ?_)
          | (refine wpList_run (w := w9) rfl (v := .pointer (some ⟨wr.heap.size, 1, none⟩)) (Held.y_field (S := fun _ => True) (k := 1) (s := 0) rfl rfl Tryd.underlying58 rfl (by kernel_rfl) rfl _ trivial) ?_)
          | (refine wpList_run (w := w9) rfl (v := .pointer (some ⟨wr.heap.size, 5, none⟩)) (Held.y_field (S := fun _ => True) (k := 5) (s := 0) rfl rfl Tryd.underlying58 rfl (by kernel_rfl) rfl _ trivial) ?_)
          | (refine wpList_run (w := w9) rfl (v := .int .i64 z) (Held.y_int (S := fun _ => True) rfl rfl rfl (Held.run_bitop (by simp) 2 .i64 HZ.out) _ trivial) ?_)
          | (refine wpList_run (w := w9) rfl (v := .pointer (some ⟨w.heap.size, rd, none⟩)) (Held.y_addr (S := fun _ => True) rfl rfl rfl (Held.run_addr_arr (P := Tryd.prog) 75 2 8 w.heap.size rd .i64 Tryd.underlying75 (by kernel_rfl) hrd) _ trivial) ?_)
          | (refine wpList_store_elem (w := w9) rfl 2 _ _ rfl w.heap.size rd rfl 75 .i64 _ z rfl qr9 (by rw [HL8.out]; exact hrd) size_i64 HZW.out ?_; intro w10 qz g10 z10))
        have c10 := (HBW.out _ b9).grown g10 (HBW.out _ b9).size (fun r ee => by cases ee; exact Nat.le_refl _)
        have q10 := (HBQ.out _ b9).grown g10 (by intro ee; injection ee with ee; omega)
        go_roundw
        case rel => exact ⟨i + 1, by omega, by go_num, by rw [HNX.out, HST.out]; exact qz, q10, c10⟩
        case measure => simp [intOf]; omega
      · have HST := Lib.hid (HS.out 6 rfl)
        clear HS
        obtain ⟨z, hz⟩ : ∃ z, bits .or .i64 a bv = z := ⟨_, rfl⟩
        have HZ := Lib.hid hz
        have HZW := Lib.hid (show (Lit.int .i64 z).wf = true from hz ▸ bits_wf' _ (.inr (.inl rfl)) _ _)
        have HST := Lib.hid (HST.out.trans (show zs.set rd (opV ⟨6, rd, ra, rb, rc, nn⟩ a bv cv) = zs.set rd z by rw [← hz]; rfl))
        clear hz
        go_wp2_with (first
          | (refine wpList_run (w := w9) rfl (v := .pointer (some ⟨wr.heap.size, 0, none⟩)) (Held.y_field (S := fun _ => True) (k := 0) (s := 0) rfl rfl Tryd.underlying58 rfl (by kernel_rfl) rfl _ trivial) ?_)
          | (refine wpList_run (w := w9) rfl (v := .pointer (some ⟨wr.heap.size, 1, none⟩)) (Held.y_field (S := fun _ => True) (k := 1) (s := 0) rfl rfl Tryd.underlying58 rfl (by kernel_rfl) rfl _ trivial) ?_)
          | (refine wpList_run (w := w9) rfl (v := .pointer (some ⟨wr.heap.size, 5, none⟩)) (Held.y_field (S := fun _ => True) (k := 5) (s := 0) rfl rfl Tryd.underlying58 rfl (by kernel_rfl) rfl _ trivial) ?_)
          | (refine wpList_run (w := w9) rfl (v := .int .i64 z) (Held.y_int (S := fun _ => True) rfl rfl rfl (Held.run_bitop (by simp) 2 .i64 HZ.out) _ trivial) ?_)
          | (refine wpList_run (w := w9) rfl (v := .pointer (some ⟨w.heap.size, rd, none⟩)) (Held.y_addr (S := fun _ => True) rfl rfl rfl (Held.run_addr_arr (P := Tryd.prog) 75 2 8 w.heap.size rd .i64 Tryd.underlying75 (by kernel_rfl) hrd) _ trivial) ?_)
          | (refine wpList_store_elem (w := w9) rfl 2 _ _ rfl w.heap.size rd rfl 75 .i64 _ z rfl qr9 (by rw [HL8.out]; exact hrd) size_i64 HZW.out ?_; intro w10 qz g10 z10))
        have c10 := (HBW.out _ b9).grown g10 (HBW.out _ b9).size (fun r ee => by cases ee; exact Nat.le_refl _)
        have q10 := (HBQ.out _ b9).grown g10 (by intro ee; injection ee with ee; omega)
        go_roundw
        case rel => exact ⟨i + 1, by omega, by go_num, by rw [HNX.out, HST.out]; exact qz, q10, c10⟩
        case measure => simp [intOf]; omega
      · have HST := Lib.hid (HS.out 7 rfl)
        clear HS
        obtain ⟨z, hz⟩ : ∃ z, bits .xor .i64 a bv = z := ⟨_, rfl⟩
        have HZ := Lib.hid hz
        have HZW := Lib.hid (show (Lit.int .i64 z).wf = true from hz ▸ bits_wf' _ (.inr (.inr rfl)) _ _)
        have HST := Lib.hid (HST.out.trans (show zs.set rd (opV ⟨7, rd, ra, rb, rc, nn⟩ a bv cv) = zs.set rd z by rw [← hz]; rfl))
        clear hz
        go_wp2_with (first
          | (refine wpList_run (w := w9) rfl (v := .pointer (some ⟨wr.heap.size, 0, none⟩)) (Held.y_field (S := fun _ => True) (k := 0) (s := 0) rfl rfl Tryd.underlying58 rfl (by kernel_rfl) rfl _ trivial) ?_)
          | (refine wpList_run (w := w9) rfl (v := .pointer (some ⟨wr.heap.size, 1, none⟩)) (Held.y_field (S := fun _ => True) (k := 1) (s := 0) rfl rfl Tryd.underlying58 rfl (by kernel_rfl) rfl _ trivial) ?_)
          | (refine wpList_run (w := w9) rfl (v := .pointer (some ⟨wr.heap.size, 5, none⟩)) (Held.y_field (S := fun _ => True) (k := 5) (s := 0) rfl rfl Tryd.underlying58 rfl (by kernel_rfl) rfl _ trivial) ?_)
          | (refine wpList_run (w := w9) rfl (v := .int .i64 z) (Held.y_int (S := fun _ => True) rfl rfl rfl (Held.run_bitop (by simp) 2 .i64 HZ.out) _ trivial) ?_)
          | (refine wpList_run (w := w9) rfl (v := .pointer (some ⟨w.heap.size, rd, none⟩)) (Held.y_addr (S := fun _ => True) rfl rfl rfl (Held.run_addr_arr (P := Tryd.prog) 75 2 8 w.heap.size rd .i64 Tryd.underlying75 (by kernel_rfl) hrd) _ trivial) ?_)
          | (refine wpList_store_elem (w := w9) rfl 2 _ _ rfl w.heap.size rd rfl 75 .i64 _ z rfl qr9 (by rw [HL8.out]; exact hrd) size_i64 HZW.out ?_; intro w10 qz g10 z10))
        have c10 := (HBW.out _ b9).grown g10 (HBW.out _ b9).size (fun r ee => by cases ee; exact Nat.le_refl _)
        have q10 := (HBQ.out _ b9).grown g10 (by intro ee; injection ee with ee; omega)
        go_roundw
        case rel => exact ⟨i + 1, by omega, by go_num, by rw [HNX.out, HST.out]; exact qz, q10, c10⟩
        case measure => simp [intOf]; omega
      · have HST := Lib.hid (HS.out 8 rfl)
        clear HS
        obtain ⟨q, hq⟩ : ∃ q, decide (a < bv) = q := ⟨_, rfl⟩
        have HQ := Lib.hid hq
        have HST := Lib.hid (HST.out.trans (show zs.set rd (opV ⟨8, rd, ra, rb, rc, nn⟩ a bv cv) = zs.set rd (oneI q) by rw [← hq]; simp [opV, oneI]))
        have HZW := Lib.hid (show (Lit.int .i64 (oneI q)).wf = true by cases q <;> rfl)
        clear hq
        go_wp2_with (first
          | (refine wpList_run (w := w9) rfl (v := .pointer (some ⟨wr.heap.size, 0, none⟩)) (Held.y_field (S := fun _ => True) (k := 0) (s := 0) rfl rfl Tryd.underlying58 rfl (by kernel_rfl) rfl _ trivial) ?_)
          | (refine wpList_run (w := w9) rfl (v := .pointer (some ⟨wr.heap.size, 1, none⟩)) (Held.y_field (S := fun _ => True) (k := 1) (s := 0) rfl rfl Tryd.underlying58 rfl (by kernel_rfl) rfl _ trivial) ?_)
          | (refine wpList_run (w := w9) rfl (v := .pointer (some ⟨wr.heap.size, 5, none⟩)) (Held.y_field (S := fun _ => True) (k := 5) (s := 0) rfl rfl Tryd.underlying58 rfl (by kernel_rfl) rfl _ trivial) ?_))
        refine wp_region_held (S := fun W => Only (fun g => g = w.heap.size) w9 W) (by kernel_rfl) ?_
        change wpAnyH _ _ _ _ _ _ _ _ w9.drew
        have D9 := (Below.refl w9.heap.size w9).drew
        have c0_0 : Only (fun g => g = w.heap.size) w9 w9.drew := Only.of_below D9
        have qr9 := qr9.below D9 qr9.lt
        have b9 := b9.trans (D9.mono b9.size)
        have hne : ¬ wr.heap.size = w.heap.size := by omega
        refine Held.tk (v := .pointer (some ⟨wr.heap.size, 1, none⟩)) 0 (some 96) rfl (Held.y_field (k := 1) (s := 0) rfl rfl Tryd.underlying58 rfl (by kernel_rfl) rfl) c0_0 ?_
        simp only [Act.put, Z1, Z2, Z3]
        refine Held.tk (v := .int .i64 (rd : Int)) 1 (some 97) rfl (Held.y_load rfl rfl (by kernel_rfl) (fun X hX => hX.cell hne d1)) c0_0 ?_
        simp only [Act.put, Z1, Z2, Z3]
        refine Held.tk (v := .int .i64 a) 2 (some 98) rfl (Held.y_move rfl rfl) c0_0 ?_
        simp only [Act.put, Z1, Z2, Z3]
        refine Held.tk (v := .int .i64 bv) 3 (some 99) rfl (Held.y_move rfl rfl) c0_0 ?_
        simp only [Act.put, Z1, Z2, Z3]
        refine Held.tk (v := .bool q) 4 (some 100) rfl (Held.y_lss rfl rfl rfl HQ.out) c0_0 ?_
        simp only [Act.put, Z1, Z2, Z3]
        refine Held.one 5 (by kernel_rfl) ?_
        refine Held.op_call 5 (some 101) 50 #[.bool q] rfl rfl rfl rfl (enters_of Tryd.func50 (by kernel_rfl) rfl) (by simp [Act.eval])
          (rone_i64 q _) ?_
        rintro e w1 ⟨rfl, b1⟩
        have c0_1 := c0_0.trans (Only.of_below b1)
        have qr9 := qr9.below b1 qr9.lt
        have b9 := b9.trans (b1.mono b9.size)
        refine ⟨_, rfl, c0_1, ?_⟩
        simp only [Act.put, Z1, Z2, Z3]
        refine Held.tk (v := .pointer (some ⟨w.heap.size, rd, none⟩)) 6 (some 102) rfl (Held.y_addr rfl rfl rfl (Held.run_addr_arr 75 2 8 w.heap.size rd .i64 Tryd.underlying75 (by kernel_rfl) hrd)) c0_1 ?_
        simp only [Act.put, Z1, Z2, Z3]
        refine Held.one 7 (by kernel_rfl) ?_
        refine Held.op_store_elem 7 none 2 w.heap.size rd 75 .i64 _ (oneI q) rfl rfl rfl rfl rfl rfl qr9 (by rw [HL8.out]; exact hrd) size_i64 HZW.out ?_
        intro w10 qz g10
        refine ⟨c0_1.trans (Only.of_grown g10 (fun r ee => by cases ee; rfl)), ?_⟩
        simp only [Act.put]
        refine wpAnyH_done (by kernel_rfl) ?_ _
        go_wp2_with fail
        have c10 := (HBW.out _ b9).grown g10 (HBW.out _ b9).size (fun r ee => by cases ee; exact Nat.le_refl _)
        have q10 := (HBQ.out _ b9).grown g10 (by intro ee; injection ee with ee; omega)
        go_roundw
        case rel => exact ⟨i + 1, by omega, by go_num, by rw [HNX.out, HST.out]; exact qz, q10, c10⟩
        case measure => simp [intOf]; omega
      · have HST := Lib.hid (HS.out 9 rfl)
        clear HS
        obtain ⟨q, hq⟩ : ∃ q, decide (a = bv) = q := ⟨_, rfl⟩
        have HQ := Lib.hid hq
        have HST := Lib.hid (HST.out.trans (show zs.set rd (opV ⟨9, rd, ra, rb, rc, nn⟩ a bv cv) = zs.set rd (oneI q) by rw [← hq]; simp [opV, oneI]))
        have HZW := Lib.hid (show (Lit.int .i64 (oneI q)).wf = true by cases q <;> rfl)
        clear hq
        go_wp2_with (first
          | (refine wpList_run (w := w9) rfl (v := .pointer (some ⟨wr.heap.size, 0, none⟩)) (Held.y_field (S := fun _ => True) (k := 0) (s := 0) rfl rfl Tryd.underlying58 rfl (by kernel_rfl) rfl _ trivial) ?_)
          | (refine wpList_run (w := w9) rfl (v := .pointer (some ⟨wr.heap.size, 1, none⟩)) (Held.y_field (S := fun _ => True) (k := 1) (s := 0) rfl rfl Tryd.underlying58 rfl (by kernel_rfl) rfl _ trivial) ?_)
          | (refine wpList_run (w := w9) rfl (v := .pointer (some ⟨wr.heap.size, 5, none⟩)) (Held.y_field (S := fun _ => True) (k := 5) (s := 0) rfl rfl Tryd.underlying58 rfl (by kernel_rfl) rfl _ trivial) ?_))
        refine wp_region_held (S := fun W => Only (fun g => g = w.heap.size) w9 W) (by kernel_rfl) ?_
        change wpAnyH _ _ _ _ _ _ _ _ w9.drew
        have D9 := (Below.refl w9.heap.size w9).drew
        have c0_0 : Only (fun g => g = w.heap.size) w9 w9.drew := Only.of_below D9
        have qr9 := qr9.below D9 qr9.lt
        have b9 := b9.trans (D9.mono b9.size)
        have hne : ¬ wr.heap.size = w.heap.size := by omega
        refine Held.tk (v := .pointer (some ⟨wr.heap.size, 1, none⟩)) 0 (some 105) rfl (Held.y_field (k := 1) (s := 0) rfl rfl Tryd.underlying58 rfl (by kernel_rfl) rfl) c0_0 ?_
        simp only [Act.put, Z1, Z2, Z3]
        refine Held.tk (v := .int .i64 (rd : Int)) 1 (some 106) rfl (Held.y_load rfl rfl (by kernel_rfl) (fun X hX => hX.cell hne d1)) c0_0 ?_
        simp only [Act.put, Z1, Z2, Z3]
        refine Held.tk (v := .int .i64 a) 2 (some 107) rfl (Held.y_move rfl rfl) c0_0 ?_
        simp only [Act.put, Z1, Z2, Z3]
        refine Held.tk (v := .int .i64 bv) 3 (some 108) rfl (Held.y_move rfl rfl) c0_0 ?_
        simp only [Act.put, Z1, Z2, Z3]
        refine Held.tk (v := .bool q) 4 (some 109) rfl (Held.y_eqI rfl rfl rfl HQ.out) c0_0 ?_
        simp only [Act.put, Z1, Z2, Z3]
        refine Held.one 5 (by kernel_rfl) ?_
        refine Held.op_call 5 (some 110) 50 #[.bool q] rfl rfl rfl rfl (enters_of Tryd.func50 (by kernel_rfl) rfl) (by simp [Act.eval])
          (rone_i64 q _) ?_
        rintro e w1 ⟨rfl, b1⟩
        have c0_1 := c0_0.trans (Only.of_below b1)
        have qr9 := qr9.below b1 qr9.lt
        have b9 := b9.trans (b1.mono b9.size)
        refine ⟨_, rfl, c0_1, ?_⟩
        simp only [Act.put, Z1, Z2, Z3]
        refine Held.tk (v := .pointer (some ⟨w.heap.size, rd, none⟩)) 6 (some 111) rfl (Held.y_addr rfl rfl rfl (Held.run_addr_arr 75 2 8 w.heap.size rd .i64 Tryd.underlying75 (by kernel_rfl) hrd)) c0_1 ?_
        simp only [Act.put, Z1, Z2, Z3]
        refine Held.one 7 (by kernel_rfl) ?_
        refine Held.op_store_elem 7 none 2 w.heap.size rd 75 .i64 _ (oneI q) rfl rfl rfl rfl rfl rfl qr9 (by rw [HL8.out]; exact hrd) size_i64 HZW.out ?_
        intro w10 qz g10
        refine ⟨c0_1.trans (Only.of_grown g10 (fun r ee => by cases ee; rfl)), ?_⟩
        simp only [Act.put]
        refine wpAnyH_done (by kernel_rfl) ?_ _
        go_wp2_with fail
        have c10 := (HBW.out _ b9).grown g10 (HBW.out _ b9).size (fun r ee => by cases ee; exact Nat.le_refl _)
        have q10 := (HBQ.out _ b9).grown g10 (by intro ee; injection ee with ee; omega)
        go_roundw
        case rel => exact ⟨i + 1, by omega, by go_num, by rw [HNX.out, HST.out]; exact qz, q10, c10⟩
        case measure => simp [intOf]; omega
      · have HST := Lib.hid (HS.out 10 rfl)
        clear HS
        by_cases h0 : a = 0
        · have HST := Lib.hid (HST.out.trans (show zs.set rd (opV ⟨10, rd, ra, rb, rc, nn⟩ a bv cv) = zs.set rd cv by simp [opV, h0]))
          have HZW := Lib.hid hcv
          go_wp2_with (first
            | (refine wpList_run (w := w9) rfl (v := .pointer (some ⟨wr.heap.size, 0, none⟩)) (Held.y_field (S := fun _ => True) (k := 0) (s := 0) rfl rfl Tryd.underlying58 rfl (by kernel_rfl) rfl _ trivial) ?_)
            | (refine wpList_run (w := w9) rfl (v := .pointer (some ⟨wr.heap.size, 1, none⟩)) (Held.y_field (S := fun _ => True) (k := 1) (s := 0) rfl rfl Tryd.underlying58 rfl (by kernel_rfl) rfl _ trivial) ?_)
            | (refine wpList_run (w := w9) rfl (v := .pointer (some ⟨wr.heap.size, 5, none⟩)) (Held.y_field (S := fun _ => True) (k := 5) (s := 0) rfl rfl Tryd.underlying58 rfl (by kernel_rfl) rfl _ trivial) ?_)
            | (refine wpList_run (w := w9) rfl (v := .pointer (some ⟨w.heap.size, rd, none⟩)) (Held.y_addr (S := fun _ => True) rfl rfl rfl (Held.run_addr_arr (P := Tryd.prog) 75 2 8 w.heap.size rd .i64 Tryd.underlying75 (by kernel_rfl) hrd) _ trivial) ?_)
            | (refine wpList_store_elem (w := w9) rfl 2 _ _ rfl w.heap.size rd rfl 75 .i64 _ cv rfl qr9 (by rw [HL8.out]; exact hrd) size_i64 HZW.out ?_; intro w10 qz g10 z10))
          have c10 := (HBW.out _ b9).grown g10 (HBW.out _ b9).size (fun r ee => by cases ee; exact Nat.le_refl _)
          have q10 := (HBQ.out _ b9).grown g10 (by intro ee; injection ee with ee; omega)
          go_roundw
          case rel => exact ⟨i + 1, by omega, by go_num, by rw [HNX.out, HST.out]; exact qz, q10, c10⟩
          case measure => simp [intOf]; omega
        · have HST := Lib.hid (HST.out.trans (show zs.set rd (opV ⟨10, rd, ra, rb, rc, nn⟩ a bv cv) = zs.set rd bv by simp [opV, h0]))
          have HZW := Lib.hid hbv
          go_wp2_with (first
            | (refine wpList_run (w := w9) rfl (v := .pointer (some ⟨wr.heap.size, 0, none⟩)) (Held.y_field (S := fun _ => True) (k := 0) (s := 0) rfl rfl Tryd.underlying58 rfl (by kernel_rfl) rfl _ trivial) ?_)
            | (refine wpList_run (w := w9) rfl (v := .pointer (some ⟨wr.heap.size, 1, none⟩)) (Held.y_field (S := fun _ => True) (k := 1) (s := 0) rfl rfl Tryd.underlying58 rfl (by kernel_rfl) rfl _ trivial) ?_)
            | (refine wpList_run (w := w9) rfl (v := .pointer (some ⟨wr.heap.size, 5, none⟩)) (Held.y_field (S := fun _ => True) (k := 5) (s := 0) rfl rfl Tryd.underlying58 rfl (by kernel_rfl) rfl _ trivial) ?_)
            | (refine wpList_run (w := w9) rfl (v := .pointer (some ⟨w.heap.size, rd, none⟩)) (Held.y_addr (S := fun _ => True) rfl rfl rfl (Held.run_addr_arr (P := Tryd.prog) 75 2 8 w.heap.size rd .i64 Tryd.underlying75 (by kernel_rfl) hrd) _ trivial) ?_)
            | (refine wpList_store_elem (w := w9) rfl 2 _ _ rfl w.heap.size rd rfl 75 .i64 _ bv rfl qr9 (by rw [HL8.out]; exact hrd) size_i64 HZW.out ?_; intro w10 qz g10 z10))
          have c10 := (HBW.out _ b9).grown g10 (HBW.out _ b9).size (fun r ee => by cases ee; exact Nat.le_refl _)
          have q10 := (HBQ.out _ b9).grown g10 (by intro ee; injection ee with ee; omega)
          go_roundw
          case rel => exact ⟨i + 1, by omega, by go_num, by rw [HNX.out, HST.out]; exact qz, q10, c10⟩
          case measure => simp [intOf]; omega
      · have HST := Lib.hid (HS.out 11 rfl)
        clear HS
        have HB6 := low6s bv hbv
        have hlt6 := (show (bv % 64).toNat ≤ 63 by omega)
        generalize hS : (bv % 64).toNat = sh at HB6 hlt6
        have HST := Lib.hid (HST.out.trans (show zs.set rd (opV ⟨11, rd, ra, rb, rc, nn⟩ a bv cv) = zs.set rd (a / 2 ^ sh) by rw [← hS]; rfl))
        have HZW := Lib.hid (show (Lit.int .i64 (a / 2 ^ sh)).wf = true by have := opV_wf ⟨11, rd, ra, rb, rc, nn⟩ (a := a) (b := bv) (c := cv) hnn hav hbv hcv; rw [← hS]; exact this)
        clear hS
        have hwu : IntKind.u64.wrap (sh : Int) = (sh : Int) := by rw [IntKind.wrap_u64]; omega
        go_wp2_with (first
          | (refine wpList_run (w := w9) rfl (v := .pointer (some ⟨wr.heap.size, 0, none⟩)) (Held.y_field (S := fun _ => True) (k := 0) (s := 0) rfl rfl Tryd.underlying58 rfl (by kernel_rfl) rfl _ trivial) ?_)
          | (refine wpList_run (w := w9) rfl (v := .pointer (some ⟨wr.heap.size, 1, none⟩)) (Held.y_field (S := fun _ => True) (k := 1) (s := 0) rfl rfl Tryd.underlying58 rfl (by kernel_rfl) rfl _ trivial) ?_)
          | (refine wpList_run (w := w9) rfl (v := .pointer (some ⟨wr.heap.size, 5, none⟩)) (Held.y_field (S := fun _ => True) (k := 5) (s := 0) rfl rfl Tryd.underlying58 rfl (by kernel_rfl) rfl _ trivial) ?_)
          | (refine wpList_shr (w := w9) rfl _ _ _ _ rfl .i64 .u64 a (a / 2 ^ sh) sh rfl rfl (by simp [IntKind.bits]; omega) rfl ?_)
          | (refine wpList_run (w := w9) rfl (v := .pointer (some ⟨w.heap.size, rd, none⟩)) (Held.y_addr (S := fun _ => True) rfl rfl rfl (Held.run_addr_arr (P := Tryd.prog) 75 2 8 w.heap.size rd .i64 Tryd.underlying75 (by kernel_rfl) hrd) _ trivial) ?_)
          | (refine wpList_store_elem (w := w9) rfl 2 _ _ rfl w.heap.size rd rfl 75 .i64 _ (a / 2 ^ sh) rfl qr9 (by rw [HL8.out]; exact hrd) size_i64 HZW.out ?_; intro w10 qz g10 z10))
        have c10 := (HBW.out _ b9).grown g10 (HBW.out _ b9).size (fun r ee => by cases ee; exact Nat.le_refl _)
        have q10 := (HBQ.out _ b9).grown g10 (by intro ee; injection ee with ee; omega)
        go_roundw
        case rel => exact ⟨i + 1, by omega, by go_num, by rw [HNX.out, HST.out]; exact qz, q10, c10⟩
        case measure => simp [intOf]; omega
    · have hin : i = n := by omega
      subst hin
      rw [List.take_of_length_le (by rw [HL.out]; exact Nat.le_refl _)] at qr
      have H8 := Lib.hid (HRL.out xs)
      obtain ⟨zs, hzs⟩ : ∃ zs, runR xs rs0 = zs := ⟨_, rfl⟩
      rw [hzs] at qr H8
      have HZS := Lib.hid hzs
      clear hzs
      go_wp2_with (first
        | (refine wpList_load_Row (w := wr) rfl 75 _ rfl w.heap.size rfl 75 .i64 _ qr 8 2 Tryd.underlying75 info_regs H8.out ?_)
        | (refine wpList_store_RowTo (w := wr) rfl 75 _ _ rfl u1.heap.size rfl 75 .i64 _ zs rfl q2 8 info_regs H8.out (by simp) qr.1 ?_; intro w8 q8 g8 z8))
      have q8' : Blk w8 u1.heap.size 75 (arr .i64 zs) := q8.2
      exact bodyPost_ret (results_blk_tmp rfl _ _ u1.heap.size 8 _ _ (.slice none 0 0) rfl rfl q8' _ Tryd.underlying75 rfl info_regs (by rw [arr_size]; exact H8.out)) rfl ⟨by rw [HZS.out], bw.grown g8 bw.size (fun r ee => by cases ee; omega)⟩
end Go.Proofs.YtlinmcgmkpkpaaaDoor.Cn
namespace Go.Proofs.YtlinmcgmkpkpaaaDoor.Sl
open Go.RowKit Go.Shelf Go.Proofs.YtlinmcgmkpkpaaaDoor Mem Held
section
variable {α : Type} {k : St α}
theorem own_set {e : TypeId} {w : World} {base g n cap i : Nat} {xs : List α} (f : α) (hown : OwnL k e w base (.slice (some ⟨g, 0, none⟩) n cap) xs) (hi : i < xs.length) :
    w.there g (i * k.s) (k.cells f).toArray.size ∧ OwnL k e (w.setCells g (i * k.s) (k.cells f)) base (.slice (some ⟨g, 0, none⟩) n cap) (xs.set i f) := by
  rcases hown.2 with ⟨e', _⟩ | ⟨g', cap', cur, e', hb, hg, hnc, hcm, hcs, ht⟩
  · cases e'
  · injection e' with e1 e2 e3
    injection e1 with e1
    injection e1 with e1
    subst e1
    subst e3
    have hle : (i + 1) * k.s ≤ cap * k.s := Nat.mul_le_mul_right _ (by omega)
    have hle2 : (i + 1) * k.s ≤ xs.length * k.s := Nat.mul_le_mul_right _ (by omega)
    rw [Nat.add_mul, Nat.one_mul] at hle hle2
    have hth : w.there g (i * k.s) (k.cells f).toArray.size := fun j hj => by
      have hj' : j < k.s := by rw [List.size_toArray, k.len] at hj; exact hj
      refine ⟨?_, by simp [World.frozen?, hg]⟩
      rw [cell_of_row w g _ _ _ (0, 0) hg, Array.getElem?_eq_getElem (by omega)]
      rfl
    obtain ⟨cur', h1, h2, h3⟩ := heap_setCells (k.cells f) (i * k.s) w cur hg (by rw [k.len]; omega)
    refine ⟨hth, ?_⟩
    refine ⟨flat_length k _, .inr ⟨g, cap, cur', by rw [List.length_set]; exact congrArg (fun n => Value.slice (some ⟨g, 0, none⟩) n cap) e2, hb, h1, by rw [List.length_set]; exact hnc, hcm, by rw [h2, hcs], ?_⟩⟩
    rw [List.length_set, h3, flat_set xs i f hi, ← ht, k.len]
    have hcl : cur.toList.length = cap * k.s := by simpa using hcs
    have hl : xs.length * k.s ≤ cur.toList.length := by rw [hcl]; exact Nat.mul_le_mul_right _ hnc
    apply List.ext_getElem?
    intro j
    have hc0 : (k.cells f).length = k.s := k.len f
    have ha : (cur.toList.take (i * k.s)).length = i * k.s := by rw [List.length_take]; omega
    have ha2 : ((cur.toList.take (xs.length * k.s)).take (i * k.s)).length = i * k.s := by rw [List.length_take, List.length_take]; omega
    rw [List.getElem?_take]
    simp only [List.append_assoc, List.getElem?_append, ha, ha2, hc0, List.getElem?_take, List.getElem?_drop]
    by_cases hj : j < xs.length * k.s
    · rw [if_pos hj]
      by_cases h4 : j < i * k.s
      · rw [if_pos h4, if_pos h4, if_pos h4, if_pos h4, if_pos hj]
      · rw [if_neg h4, if_neg h4]
        by_cases h5 : j - i * k.s < k.s
        · rw [if_pos h5, if_pos h5]
        · rw [if_neg h5, if_neg h5, if_pos (by omega)]
    · rw [if_neg hj, if_neg (by omega), if_neg (by omega), if_neg (by omega)]
theorem op_store_ownL {P : Program} {ops : Array Oper} {Q : Exit → Act → World → Prop} {o : Oper} {a : Act} {w : World} (i : Nat) (d : Option Tmp) {K : Act → World → Prop} (ty : TypeId) {x y : Operand} (base g n cap off j : Nat) (xs : List α) (f : α) (hi : ops[i]? = some o) (hd : o.dst = d) (hw : Region.wanted o (yielded ops a.tmps) = true)
    (ho : o.op = .store ty x y) (hoff : off = j * k.s) (hx : a.eval x = .pointer (some ⟨g, off, none⟩)) (hy : a.eval y = .agg (k.cells f).toArray) (hown : OwnL k ty w base (.slice (some ⟨g, 0, none⟩) n cap) xs) (hj : j < xs.length) (hsz : (P.info? ty).map (·.size) = some k.s)
    (h : ∀ w', OwnL k ty w' base (.slice (some ⟨g, 0, none⟩) n cap) (xs.set j f) → w.grownBy w' (some g) → K (a.put d undef) w') : wpOp P ops Q i K a w := by
  subst hd
  subst hoff
  refine op_wp i hi hw ?_
  obtain ⟨h1, h2⟩ := own_set f hown hj
  exact wp_store_mid ty x y ho g (j * k.s) (k.cells f).toArray hx hy h1 (by rw [hsz, List.size_toArray, k.len]) (all_oneCell_toArray (k.one f)) (h _ h2 (grown_setCells _ _ _ _))
end
end Go.Proofs.YtlinmcgmkpkpaaaDoor.Sl
