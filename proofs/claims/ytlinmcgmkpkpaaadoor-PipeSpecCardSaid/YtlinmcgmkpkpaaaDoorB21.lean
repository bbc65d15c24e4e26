/-
  Package pipe's Run by its contract, where nothing is refused: it tells each key, by rising keys, with its values folded in the order in which they came, and finished.
  Package dominoplay's Right: whatever job comes in, one comes out that may be: small public numbers, a program that may be, as many pairs as records.
-/
import Derived.Test.YtlinmcgmkpkpaaaDoorB20
import Derived.Test.YtlinmcgmkpkpaaaDoorB10
import Derived.Test.YtlinmcgmkpkpaaaDoorB14
import Derived.Test.YtlinmcgmkpkpaaaDoorB15
import Derived.Test.YtlinmcgmkpkpaaaDoorB9
import Derived.Test.YtlinmcgmkpkpaaaDoorB2
import Derived.Deep.CutRange
set_option linter.unusedVariables false
namespace Go.Proofs.YtlinmcgmkpkpaaaDoor.Pi
open Go.RowKit Go.Shelf Mem Held Go.Proofs.YtlinmcgmkpkpaaaDoor.Range Ct Rc Rs Sl Vm Sp Mg
attribute [local go_sem] Oper.semAt_some
attribute [local irreducible] wpList wpListIn Calls
theorem info_kP : (Tryd.prog.info? 39).map (fun i => (i.zero, i.size, i.bytes)) = some (some (.agg (kP.cells kP.d).toArray), kP.s, 16) := by kernel_rfl
theorem told_next {xs : List R} {j : Nat} (hj : j < xs.length) (h : (xs.getD j R0).d = false) : ((xs.take (j + 1)).filter fun r => !r.d).map (fun r => (r.k, r.v)) = ((xs.take j).filter fun r => !r.d).map (fun r => (r.k, r.v)) ++ [((xs.getD j R0).k, (xs.getD j R0).v)] := by
  rw [← Sp.filter_snoc hj h, List.map_append]; rfl
theorem told_skip {xs : List R} {j : Nat} (hj : j < xs.length) (h : (xs.getD j R0).d = true) : ((xs.take (j + 1)).filter fun r => !r.d).map (fun r => (r.k, r.v)) = ((xs.take j).filter fun r => !r.d).map (fun r => (r.k, r.v)) := by
  rw [Sp.filter_skip hj h]
theorem told_le (xs : List R) (j : Nat) : (((xs.take j).filter fun r => !r.d).map (fun r => (r.k, r.v))).length ≤ j := by
  rw [List.length_map]
  exact Nat.le_trans (List.length_filter_le _ _) (by rw [List.length_take]; exact Nat.min_le_left _ _)
set_option maxRecDepth 100000 in
set_option maxHeartbeats 8000000 in
theorem run_ok (B k b S T : Nat) (wk : Int) (A1 A2 A3 A : Option Addr) (n1 c1 n2 c2 n3 c3 n c : Nat) (m f fi : List O) (ps : List (Int × Int)) (w : World)
    (h1 : Lst kO w B A1 n1 m) (h2 : Lst kO w B A2 n2 f) (h3 : Lst kO w B A3 n3 fi) (hp : Lst kP w B A n ps) (hB : B ≤ w.heap.size) (hC : checkB (k : Int) m f fi = true) (hR : rightB (n : Int) (k : Int) (b : Int) wk = true) (hM : allI (n : Int) (k : Int) (b : Int) = ((2 ^ S : Nat) : Int)) (hS : S ≤ 5) (hTS : Bi.tri S = T) (hL : n * k < 2 ^ S * b) (hT : Bi.TzT w) :
    Calls Tryd.prog 9 #[.agg #[.int .i64 (k : Int), .slice A1 n1 c1, .slice A2 n2 c2, .slice A3 n3 c3], .agg #[.int .i64 (n : Int), .int .i64 (k : Int), .int .i64 (b : Int), .int .i64 wk], .slice A n c] w fun e w' => ∃ v, e = .returned (.tuple #[v, .int .i64 0]) ∧ OwnL kP 39 w' w.heap.size v (tellP (stgB (k : Int) m f fi ps b (2 ^ S) T (2 + 2 * T))) ∧ (∀ x ∈ tellP (stgB (k : Int) m f fi ps b (2 ^ S) T (2 + 2 * T)), pwf x) ∧ Below w.heap.size w w' := by
  have hlen := hp.1
  obtain ⟨⟨_, hn64⟩, _, ⟨hb1, hb8⟩, _, _⟩ := right_says hR
  have hstg : Bi.stg (allI (n : Int) (k : Int) (b : Int)) = S := by rw [hM, ← Bi.two_nat]; exact Bi.stg_pow (by omega)
  have HLA := Lib.hid (fun (X : World) (hT : Bi.TzT X) => last_ok (n : Int) (k : Int) (b : Int) wk T X hR hT (by rw [hstg, hTS]))
  have HSG := Lib.hid (fun (X : World) (h1 : Lst kO X B A1 n1 m) (h2 : Lst kO X B A2 n2 f) (h3 : Lst kO X B A3 n3 fi) (hp : Lst kP X B A n ps) (hB : B ≤ X.heap.size) (hT : Bi.TzT X) => stage_ok B k b S T (2 + 2 * T) wk A1 A2 A3 A n1 c1 n2 c2 n3 c3 n c m f fi ps X h1 h2 h3 hp hB hC hR hM hS hTS hL hT (Nat.le_refl _))
  have hLe : ps.length * k ≤ 2 ^ S * b := by rw [hlen]; omega
  have hME := mapB_even (B := b) (S := S) hC hLe
  have hMW := mapB_wf (K := k) (f := f) (e := fi) (B := b) (S := S) hC hLe h1.2.1 hp.2.1 (by rw [hlen]; omega)
  have hMN : (mapB (k : Int) m f fi ps b (2 ^ S)).length = 2 ^ S := mapB_length
  have hBE := behB_even (S := S) hME hMN (Nat.le_refl (Bi.tri S))
  have hBW := behB_wf (seq := true) (S := S) hMW hMN (Nat.le_refl (Bi.tri S))
  have hBN : (behB true (2 ^ S) (mapB (k : Int) m f fi ps b (2 ^ S)) (Bi.tri S)).length = 2 ^ S := by rw [behB_length, hMN]
  have hFE := foldC_even (foldV (k : Int) m f fi) (finishV (k : Int) m f fi) RD (behB true (2 ^ S) (mapB (k : Int) m f fi ps b (2 ^ S)) (Bi.tri S)) (fun x hx => (hBE x hx).1)
  have hFW := outs_wfs (F := foldV (k : Int) m f fi) (G := finishV (k : Int) m f fi) (fun a v ha hv => Sp.foldV_wf (K := (k : Int)) (m := m) (e := fi) h2.2.1 a v ha hv) (fun a v ha hv => Sp.finishV_wf (K := (k : Int)) (m := m) (f := f) h3.2.1 a v ha hv) hBW
  have hFN : (foldC (foldV (k : Int) m f fi) (finishV (k : Int) m f fi) RD (behB true (2 ^ S) (mapB (k : Int) m f fi ps b (2 ^ S)) (Bi.tri S))).length = 2 ^ S := by rw [foldC_length, hBN]
  have hZE := behB_even (S := S) hFE hFN (Nat.le_refl (Bi.tri S))
  have hZW := behB_wf (seq := false) (S := S) hFW hFN (Nat.le_refl (Bi.tri S))
  have hZN : (behB false (2 ^ S) (foldC (foldV (k : Int) m f fi) (finishV (k : Int) m f fi) RD (behB true (2 ^ S) (mapB (k : Int) m f fi ps b (2 ^ S)) (Bi.tri S))) (Bi.tri S)).length = 2 ^ S := by rw [behB_length, hFN]
  have hst : stgB (k : Int) m f fi ps b (2 ^ S) T (2 + 2 * T) = behB false (2 ^ S) (foldC (foldV (k : Int) m f fi) (finishV (k : Int) m f fi) RD (behB true (2 ^ S) (mapB (k : Int) m f fi ps b (2 ^ S)) (Bi.tri S))) (Bi.tri S) := by
    rw [stgB, if_neg (by omega), if_neg (by omega), show 2 + 2 * T - 2 - T = T by omega, hTS]
  rw [← hst] at hZE hZW hZN
  have hM32 : 2 ^ S ≤ 32 := Nat.pow_le_pow_right (n := 2) (i := S) (by omega) hS
  have hM1 : 1 ≤ 2 ^ S := Nat.two_pow_pos _
  generalize stgB (k : Int) m f fi ps b (2 ^ S) T (2 + 2 * T) = bs at *
  have HZ := Lib.hid (fun x hx => (hZE x hx).1)
  have HZW := Lib.hid hZW
  have HZN := Lib.hid hZN
  have HTW := Lib.hid (show ∀ x ∈ tellP bs, pwf x from fun x hx => by
    obtain ⟨r, hr, rfl⟩ := List.mem_map.1 hx
    have := wf_iff.1 hZW r (List.mem_filter.1 hr).1
    exact ⟨this.1, this.2.1⟩)
  have HFL := Lib.hid (show bs.flatten.length = 2 ^ S * b by
    have := flat_len HZ.out bs.length (Nat.le_refl _)
    rwa [List.take_of_length_le (Nat.le_refl _), hZN] at this)
  have hT136 : T ≤ 136 := by rw [← hTS]; exact Bi.tri_le (by omega)
  have hTw := hT.lt
  have HTE := Lib.hid (show tellP bs = ((bs.flatten.take bs.flatten.length).filter fun r => !r.d).map fun r => (r.k, r.v) by rw [List.take_length]; rfl)
  generalize tellP bs = told at *
  generalize 2 ^ S = M at *
  clear hC hR hM hS hTS hL hstg hLe hME hMW hMN hBE hBW hBN hFE hFW hFN hZE hZW hZN hst hlen hn64
  go_enter Tryd.func9, Tryd.ntmps9
  go_wp2_with (first
    | (refine wpList_box_blk (w := w) rfl 26 _ rfl #[.int .i64 (k : Int), .slice A1 n1 c1, .slice A2 n2 c2, .slice A3 n3 c3] rfl ?_; intro u1 qa g1 z1)
    | (refine wpList_box_blk (w := u1) rfl 28 _ rfl #[.int .i64 (n : Int), .int .i64 (k : Int), .int .i64 (b : Int), .int .i64 wk] rfl ?_; intro u2 qb g2 z2; have qa := qa.grown g2 (by simp)))
  have b2 : Below w.heap.size w u2 := ((Below.refl _ w).grown g1 (Nat.le_refl _) (by simp)).grown g2 g1.size (by simp)
  have hT2 := hT.below b2 hTw
  clear g1 g2 z1 z2
  generalize u1.heap.size = b4 at *
  refine wp_region_held (S := fun X => Below u2.heap.size u2 X) (by kernel_rfl) ?_
  change wpAnyH _ _ _ _ _ _ _ _ u2.drew
  have c0_0 := (Below.refl u2.heap.size u2).drew
  refine Held.tk (v := .agg #[.int .i64 (k : Int), .slice A1 n1 c1, .slice A2 n2 c2, .slice A3 n3 c3]) 0 (some 14) rfl (Held.y_load_blk (n := 4) rfl rfl Tryd.underlying26 rfl info_prog rfl (fun X hX => qa.after hX)) c0_0 ?_
  simp only [Act.put, Z1, Z2, Z3]
  refine Held.tk (v := .agg #[.int .i64 (n : Int), .int .i64 (k : Int), .int .i64 (b : Int), .int .i64 wk]) 1 (some 15) rfl (Held.y_load_blk (n := 4) rfl rfl Tryd.underlying28 rfl size_params rfl (fun X hX => qb.after hX)) c0_0 ?_
  simp only [Act.put, Z1, Z2, Z3]
  refine Held.tk (v := .slice A n c) 2 (some 16) rfl (Held.y_move rfl rfl) c0_0 ?_
  simp only [Act.put, Z1, Z2, Z3]
  refine Held.tk (v := .agg #[.int .i64 (n : Int), .int .i64 (k : Int), .int .i64 (b : Int), .int .i64 wk]) 3 (some 17) rfl (Held.y_load_blk (n := 4) rfl rfl Tryd.underlying28 rfl size_params rfl (fun X hX => qb.after hX)) c0_0 ?_
  simp only [Act.put, Z1, Z2, Z3]
  refine Held.one 4 (by kernel_rfl) ?_
  refine Held.op_call 4 (some 18) 20 #[.agg #[.int .i64 (n : Int), .int .i64 (k : Int), .int .i64 (b : Int), .int .i64 wk]] rfl rfl rfl rfl (enters_of Tryd.func20 (by kernel_rfl) rfl) (by simp [Act.eval])
    (HLA.out u2.drew (hT2.below c0_0 hT2.lt)) ?_
  rintro e u3 ⟨rfl, d3⟩
  have c0_1 := c0_0.trans (d3.mono c0_0.size)
  have b3 := b2.trans (c0_1.mono b2.size)
  refine ⟨_, rfl, c0_1, ?_⟩
  simp only [Act.put, Z1, Z2, Z3]
  refine Held.one 5 (by kernel_rfl) ?_
  refine Held.op_call 5 (some 19) 15 #[.agg #[.int .i64 (k : Int), .slice A1 n1 c1, .slice A2 n2 c2, .slice A3 n3 c3], .agg #[.int .i64 (n : Int), .int .i64 (k : Int), .int .i64 (b : Int), .int .i64 wk], .slice A n c, .int .i64 ((2 + 2 * T : Nat) : Int)] rfl rfl rfl rfl (enters_of Tryd.func15 (by kernel_rfl) rfl) (by simp [Act.eval])
    (HSG.out u3 (h1.below (b3.mono hB)) (h2.below (b3.mono hB)) (h3.below (b3.mono hB)) (hp.below (b3.mono hB)) (Nat.le_trans hB b3.size) (hT.below b3 hTw)) ?_
  rintro e u4 ⟨V, rfl, hG, d4⟩
  have c0_2 := c0_1.trans (d4.mono c0_1.size)
  refine ⟨_, rfl, c0_2, ?_⟩
  simp only [Act.put, Z1, Z2, Z3]
  refine Held.tk (v := .tuple #[V, .int .i64 0]) 6 (some 13) rfl (Held.y_move rfl rfl) c0_2 ?_
  simp only [Act.put, Z1, Z2, Z3]
  refine Held.tk (v := V) 7 (some 20) rfl (Held.y_extract rfl rfl rfl) c0_2 ?_
  simp only [Act.put, Z1, Z2, Z3]
  refine Held.tk (v := .int .i64 0) 8 (some 21) rfl (Held.y_extract rfl rfl rfl) c0_2 ?_
  simp only [Act.put, Z1, Z2, Z3]
  refine Held.tk (v := V) 9 (some 8) rfl (Held.y_assign rfl rfl) c0_2 ?_
  simp only [Act.put, Z1, Z2, Z3]
  refine Held.tk (v := .int .i64 0) 10 (some 9) rfl (Held.y_assign rfl rfl) c0_2 ?_
  simp only [Act.put, Z1, Z2, Z3]
  refine wpAnyH_done (by kernel_rfl) ?_ _
  have b4w := b2.trans (c0_2.mono b2.size)
  have hG := hG.less b3.size
  obtain ⟨A5, n5, c5, rfl, hn5⟩ := hG.form
  obtain rfl : M = n5 := HZN.out.symm.trans hn5.out
  have HCC := Lib.hid (concat_grid w.heap.size b A5 M c5 bs u4 hG HZ.out (by omega) hM1 hM32 HZW.out)
  clear c0_0 c0_1 c0_2 d3 d4 b2 b3 hT2 hG qa qb hn5 HLA HSG
  go_wp2_with fail
  refine HCC.out.mono ?_
  rintro e u5 ⟨v, rfl, o5, d5⟩
  have b5 := b4w.trans (d5.mono b4w.size)
  have HXW := Lib.hid (wf_iff.1 HZW.out)
  have hMb : M * b ≤ 32 * 8 := Nat.mul_le_mul hM32 (by omega)
  generalize bs.flatten = xs at *
  obtain ⟨A6, L, c6, rfl, hL, _⟩ := OwnL.form2 o5
  have HXL := Lib.hid hL.out
  rw [HXL.out] at HTE
  have hL256 : L ≤ 256 := by have := HFL.out; have := HXL.out; omega
  have l5 := OwnL.lst o5 HXW.out
  have h45 := d5.size
  clear d5 o5 HCC b4w hL
  obtain ⟨ub, hub⟩ : ∃ ub, ub = u5 := ⟨_, rfl⟩
  go_wp2_with fail
  go_loopw [10, 28] (fun va iv wr => ∃ i : Nat, i ≤ L ∧ iv = .int .i64 i ∧ OwnL kP 39 wr w.heap.size va (((xs.take i).filter fun r => !r.d).map fun r => (r.k, r.v)) ∧ Lst kRec wr u5.heap.size A6 L xs ∧ Below w.heap.size w wr ∧ u5.heap.size ≤ wr.heap.size ∧ (∀ q, va.ownBlock = some q → u5.heap.size ≤ q)) (fun _ i _ => L - (intOf i).toNat)
  case atStart => exact ⟨0, by omega, rfl, OwnL.nil _ _ _ _, l5, b5, Nat.le_refl _, fun q hq => by cases hq⟩
  case round =>
    clear l5 b5
    obtain ⟨i, hi, rfl, ho, lx, hst, hsz, hq⟩ := hrel
    by_cases hlt : i < L
    · have hlt' : (i : Int) < (L : Int) := by omega
      obtain ⟨bq, off, rfl, hbq, hx⟩ := lx.at_ hlt
      have hwf := lx.wf_at hlt
      have hix : i < xs.length := by rw [HXL.out]; exact hlt
      have HN1 := Lib.hid (fun h => told_next hix h)
      have HN2 := Lib.hid (fun h => told_skip hix h)
      have HLE := Lib.hid (told_le xs i)
      have hwf : (xs.getD i R0).wf := hwf
      have hx : wr.rangeAt bq (off + i * 4) (xs.getD i R0).cells := hx
      generalize xs.getD i R0 = x at hx hwf HN1 HN2
      obtain ⟨xd, xk, xv, xs_⟩ := x
      have hx : wr.rangeAt bq (off + i * 4) [.bool xd, .int .i64 xk, .int .i64 xv, .int .i64 xs_] := hx
      obtain ⟨hw1, hw2, _⟩ := hwf
      have hw1 : (Lit.int .i64 xk).wf = true := hw1
      have hw2 : (Lit.int .i64 xv).wf = true := hw2
      generalize (((xs.take i).filter fun r => !r.d).map fun r => (r.k, r.v)) = ts at ho HN1 HN2 HLE
      cases xd with
      | true =>
        have HS := Lib.hid (HN2.out rfl)
        clear HN1 HN2
        go_wp2_with (first
          | (refine wpList_run (w := wr) rfl (v := .pointer (some ⟨bq, off + i * 4, none⟩)) (Held.y_addr (S := fun _ => True) rfl rfl rfl (run_addr_of (P := Tryd.prog) 48 51 bq off L c6 i 4 .i64 Tryd.underlying48 size_rec7 hlt) _ trivial) ?_)
          | (refine wpList_run (w := wr) rfl (v := .agg #[.bool true, .int .i64 xk, .int .i64 xv, .int .i64 xs_]) (y_load_range (S := fun W => W = wr) (n := 4) (cs := [.bool true, .int .i64 xk, .int .i64 xv, .int .i64 xs_]) rfl rfl Tryd.underlying51 rfl size_rec7 rfl (fun W hW => by rw [hW]; exact hx) _ rfl) ?_)
          | (refine wpList_alloc_blk (w := wr) rfl 51 rfl _ zero_rec ?_; intro w2 q2 g2 z2)
          | (refine wpList_store_blk (w := w2) rfl 51 _ _ rfl wr.heap.size 4 rfl 51 _ #[.bool true, .int .i64 xk, .int .i64 xv, .int .i64 xs_] rfl q2 info_rec rfl rfl (by kernel_rfl) ?_; intro w3 q3 g3 z3; have k0 := q3.cell (i := 0) rfl)
          | (refine wpList_run (w := w3) rfl (v := .pointer (some ⟨wr.heap.size, 0, none⟩)) (Held.y_field (S := fun _ => True) (k := 0) (s := 0) rfl rfl Tryd.underlying51 rfl (by kernel_rfl) rfl _ trivial) ?_))
        have b3 : Below wr.heap.size wr w3 := ((Below.refl _ wr).grown g2 (Nat.le_refl _) (by simp)).grown g3 g2.size (fun r e => by cases e; exact Nat.le_refl _)
        have ho3 := OwnL.below ho b3
        rw [← HS.out] at ho3
        go_roundw
        case rel => exact ⟨i + 1, by omega, by go_num, ho3, lx.below (b3.mono hsz), hst.trans (b3.mono hst.size), Nat.le_trans hsz b3.size, hq⟩
        case measure => simp [intOf]; omega
      | false =>
        have HS := Lib.hid (HN1.out rfl)
        clear HN1 HN2
        go_wp2_with (first
          | (refine wpList_run (w := wr) rfl (v := .pointer (some ⟨bq, off + i * 4, none⟩)) (Held.y_addr (S := fun _ => True) rfl rfl rfl (run_addr_of (P := Tryd.prog) 48 51 bq off L c6 i 4 .i64 Tryd.underlying48 size_rec7 hlt) _ trivial) ?_)
          | (refine wpList_run (w := wr) rfl (v := .agg #[.bool false, .int .i64 xk, .int .i64 xv, .int .i64 xs_]) (y_load_range (S := fun W => W = wr) (n := 4) (cs := [.bool false, .int .i64 xk, .int .i64 xv, .int .i64 xs_]) rfl rfl Tryd.underlying51 rfl size_rec7 rfl (fun W hW => by rw [hW]; exact hx) _ rfl) ?_)
          | (refine wpList_alloc_blk (w := wr) rfl 51 rfl _ zero_rec ?_; intro w2 q2 g2 z2)
          | (refine wpList_store_blk (w := w2) rfl 51 _ _ rfl wr.heap.size 4 rfl 51 _ #[.bool false, .int .i64 xk, .int .i64 xv, .int .i64 xs_] rfl q2 info_rec rfl rfl (by kernel_rfl) ?_; intro w3 q3 g3 z3; have k0 := q3.cell (i := 0) rfl; have k1 := q3.cell (i := 1) rfl; have k2 := q3.cell (i := 2) rfl; have b3 : Below wr.heap.size wr w3 := ((Below.refl _ wr).grown g2 (Nat.le_refl _) (by simp)).grown g3 g2.size (fun r e => by cases e; exact Nat.le_refl _); have ho3 := OwnL.below ho b3)
          | (refine wpList_run (w := w3) rfl (v := .pointer (some ⟨wr.heap.size, 0, none⟩)) (Held.y_field (S := fun _ => True) (k := 0) (s := 0) rfl rfl Tryd.underlying51 rfl (by kernel_rfl) rfl _ trivial) ?_)
          | (refine wpList_run (w := w3) rfl (v := .pointer (some ⟨wr.heap.size, 1, none⟩)) (Held.y_field (S := fun _ => True) (k := 1) (s := 0) rfl rfl Tryd.underlying51 rfl (by kernel_rfl) rfl _ trivial) ?_)
          | (refine wpList_run (w := w3) rfl (v := .pointer (some ⟨wr.heap.size, 2, none⟩)) (Held.y_field (S := fun _ => True) (k := 2) (s := 0) rfl rfl Tryd.underlying51 rfl (by kernel_rfl) rfl _ trivial) ?_)
          | (refine wpList_build_blk rfl 39 _ rfl #[.int .i64 xk, .int .i64 xv] (by kernel_rfl) ?_)
          | (refine wpList_build_lst (k := kP) (w := w3) rfl 29 39 1 _ rfl Tryd.underlying29 _ 16 info_kP rfl [(xk, xv)] rfl (by kernel_rfl) (by omega) (by decide) ?_; intro w4 q4 g4 z4; have l4 : Lst kP w4 w4.heap.size (some ⟨w3.heap.size, 0, none⟩) 1 [(xk, xv)] := lst_whole q4 rfl (fun y hy => by rw [List.mem_singleton.1 hy]; exact ⟨hw1, hw2⟩); have ho4 := own_new ho3 g4 (fun r e => by cases e); have b4' : Below wr.heap.size wr w4 := b3.grown g4 b3.size (by simp))
          | (at_builtin; refine wpList_append_all (k := kP) (w := w4) rfl _ _ 29 39 rfl Tryd.underlying29 _ 16 info_kP rfl w.heap.size w4.heap.size 1 1 (some ⟨w3.heap.size, 0, none⟩) u10 ts [(xk, xv)] rfl rfl ho4 l4 (by have := HLE.out; omega) (by omega) (Nat.le_trans hst.size b4'.size) ?_; intro v5 w5 o5 g5 m5))
        rw [← HS.out] at o5
        have s4 := b4'.size
        have b5 : Below w.heap.size w w5 := (hst.trans (b4'.mono hst.size)).grown g5 (Nat.le_trans hst.size s4) (fun r e => (OwnL.lt ho4 r e).1)
        have lx5 := (lx.below (b4'.mono hsz)).below ((Below.refl u5.heap.size w4).grown g5 (Nat.le_trans hsz s4) hq)
        go_roundw
        case rel => exact ⟨i + 1, by omega, by go_num, o5, lx5, b5, Nat.le_trans hsz (Nat.le_trans s4 g5.size), fun q e => by
          rcases m5 with m5 | m5
          · exact hq q (m5 ▸ e)
          · have e2 := m5.symm.trans e; injection e2 with e2; omega⟩
        case measure => simp [intOf]; omega
    · obtain rfl : i = L := by omega
      go_wp2_with fail
      go_ret2
      rw [← HTE.out] at ho
      exact ⟨_, rfl, ho, HTW.out, hst⟩
end Go.Proofs.YtlinmcgmkpkpaaaDoor.Pi
namespace Go.Proofs.YtlinmcgmkpkpaaaDoor.Pi
open Go.RowKit Go.Shelf Mem Held Ct Rc Rs Sl Vm Sp Mg
attribute [local go_sem] Oper.semAt_some
attribute [local irreducible] wpList wpListIn Calls
section
variable {P : Program} {ops : Array Oper} {Q : Exit → Act → World → Prop} {rest : List Oper} {a : Act} {w : World} {op : Op} {t : TypeId} {p : String} {af : Array Edge} {g : Option (Nat × Bool)}
theorem on (n : Tmp) (h : wpList P ops Q ({ dst := some n, op := op, type := t, pos := p, after := af, guard := g } :: rest) a w) : wpList P ops Q ({ dst := some n, op := op, type := t, pos := p, after := af, guard := g } :: rest) a w := h
theorem onS (n : Tmp) {ty : TypeId} {y : Operand} (h : wpList P ops Q ({ dst := none, op := .store ty (.tmp n) y, type := t, pos := p, after := af, guard := g } :: rest) a w) : wpList P ops Q ({ dst := none, op := .store ty (.tmp n) y, type := t, pos := p, after := af, guard := g } :: rest) a w := h
end
section
variable (Z : Nat → Value) (K : Int) (A1 : Option Addr) (n1 c1 : Nat) (A2 : Option Addr) (n2 c2 : Nat) (A3 : Option Addr) (n3 c3 : Nat) (r k b wk : Int) (A : Option Addr) (n c : Nat) (x : Int)
theorem jb_37 : (jb Z K A1 n1 c1 A2 n2 c2 A3 n3 c3 r k b wk A n c).setIfInBounds 37 (.int .i64 x) = jb Z K A1 n1 c1 A2 n2 c2 A3 n3 c3 x k b wk A n c := rfl
theorem jb_38 : (jb Z K A1 n1 c1 A2 n2 c2 A3 n3 c3 r k b wk A n c).setIfInBounds 38 (.int .i64 x) = jb Z K A1 n1 c1 A2 n2 c2 A3 n3 c3 r x b wk A n c := rfl
theorem jb_39 : (jb Z K A1 n1 c1 A2 n2 c2 A3 n3 c3 r k b wk A n c).setIfInBounds 39 (.int .i64 x) = jb Z K A1 n1 c1 A2 n2 c2 A3 n3 c3 r k x wk A n c := rfl
theorem jb_40 : (jb Z K A1 n1 c1 A2 n2 c2 A3 n3 c3 r k b wk A n c).setIfInBounds 40 (.int .i64 x) = jb Z K A1 n1 c1 A2 n2 c2 A3 n3 c3 r k b x A n c := rfl
theorem jb_41 (A' : Option Addr) (n' c' : Nat) : (jb Z K A1 n1 c1 A2 n2 c2 A3 n3 c3 r k b wk A n c).setIfInBounds 41 (.slice A' n' c') = jb Z K A1 n1 c1 A2 n2 c2 A3 n3 c3 r k b wk A' n' c' := rfl
theorem jb_lt {i : Nat} (h : i < 42) : i < (jb Z K A1 n1 c1 A2 n2 c2 A3 n3 c3 r k b wk A n c).size := h
end
theorem small (x : Int) (m : Nat) (M : Int) (hMm : M = (m : Int)) (hm : 0 < m) (h6 : m ≤ 6) : ∃ (N : Int) (a : Nat) (r : Nat), IntKind.u64.wrap x = N ∧ N.tmod M = (a : Int) ∧ IntKind.i64.wrap (a : Int) = (a : Int) ∧ IntKind.i64.wrap (1 + (a : Int)) = (r : Int) ∧ 1 ≤ r ∧ r ≤ m := by
  subst hMm
  obtain ⟨N, hN⟩ : ∃ N : Int, IntKind.u64.wrap x = N := ⟨_, rfl⟩
  have hN0 : 0 ≤ N := by rw [← hN, IntKind.wrap_u64]; omega
  have h1 := Int.emod_nonneg N (show (m : Int) ≠ 0 by omega)
  have h2 := Int.emod_lt_of_pos N (show (0 : Int) < (m : Int) by omega)
  refine ⟨N, (N % (m : Int)).toNat, (N % (m : Int)).toNat + 1, hN, ?_, ?_, ?_, by omega, by omega⟩
  · rw [Int.tmod_eq_emod_of_nonneg hN0]; omega
  · rw [IntKind.wrap_i64]; omega
  · rw [IntKind.wrap_i64]; omega
theorem fill_says (r k b : Nat) (hr1 : 1 ≤ r) (hr : r ≤ 6) (hk1 : 1 ≤ k) (hk : k ≤ 2) (hb1 : 1 ≤ b) (hb : b ≤ 3) : ∃ d m : Nat, IntKind.i64.wrap ((r : Int) + (b : Int)) = ((r + b : Nat) : Int) ∧ IntKind.i64.wrap (((r + b : Nat) : Int) - 1) = ((r + b - 1 : Nat) : Int) ∧ ((r + b - 1 : Nat) : Int).tdiv (b : Int) = (d : Int) ∧ IntKind.i64.wrap (d : Int) = (d : Int) ∧ IntKind.i64.wrap ((k : Int) * (d : Int)) = (m : Int) ∧ (k : Int) * (((r : Int) + (b : Int) - 1) / (b : Int)) = (m : Int) ∧ (7 < m → 2 ≤ r) ∧ IntKind.i64.wrap (m : Int) = (m : Int) := by
  have hd : (r + b - 1) / b ≤ 6 := by
    have : (r + b - 1) / b < 7 := by rw [Nat.div_lt_iff_lt_mul (by omega)]; have := Nat.mul_le_mul_left 7 hb1; omega
    omega
  have hm : k * ((r + b - 1) / b) ≤ 2 * 6 := Nat.mul_le_mul hk hd
  have e : ((r + b - 1 : Nat) : Int) / (b : Int) = (((r + b - 1) / b : Nat) : Int) := by rw [Int.natCast_ediv]
  refine ⟨(r + b - 1) / b, k * ((r + b - 1) / b), ?_, ?_, ?_, ?_, ?_, ?_, ?_, ?_⟩
  · rw [IntKind.wrap_i64]; omega
  · rw [IntKind.wrap_i64]; omega
  · rw [Int.tdiv_eq_ediv_of_nonneg (by omega), e]
  · rw [IntKind.wrap_i64]; generalize (r + b - 1) / b = d at *; omega
  · rw [← Int.natCast_mul, IntKind.wrap_i64]; generalize k * ((r + b - 1) / b) = m at *; omega
  · rw [show (r : Int) + (b : Int) - 1 = ((r + b - 1 : Nat) : Int) by omega, e, Int.natCast_mul]
  · intro h
    by_cases h1 : r = 1
    · subst h1
      have : (1 + b - 1) / b = 1 := by rw [Nat.add_sub_cancel_left]; exact Nat.div_self (by omega)
      rw [this] at h
      omega
    · omega
  · rw [IntKind.wrap_i64]; generalize k * ((r + b - 1) / b) = m at *; omega
theorem right_small {r k b wk : Nat} (hr1 : 1 ≤ r) (hr : r ≤ 6) (hk1 : 1 ≤ k) (hk : k ≤ 2) (hb1 : 1 ≤ b) (hb : b ≤ 3) (hw1 : 1 ≤ wk) (hw : wk ≤ 3) (h7 : (k : Int) * (((r : Int) + (b : Int) - 1) / (b : Int)) ≤ 7) : rightB (r : Int) (k : Int) (b : Int) (wk : Int) = true := by
  simp only [rightB, Bool.and_eq_true, decide_eq_true_eq]
  omega
theorem run_front_any {P : Program} {t e : TypeId} (sz : Nat) (ht : P.underlying t = some (.slice e)) (hs : (P.info? e).map (·.size) = some sz) (A : Option Addr) (n cap : Nat) {h : Nat} (hh : h ≤ cap) (hA : 0 < h → ∃ b off, A = some ⟨b, off, none⟩) : ∃ A', (∀ w, (Instr.sliceAt t (.slice A n cap) none (some (.int .i64 (h : Int))) none).run P w = .ok (.slice A' h cap) w) ∧ (0 < h → A' = A) := by
  have he : P.elem t = e := by simp [Program.elem, ht]
  have ht' : P.underlying t = some (.slice (P.elem t)) := by rw [he]; exact ht
  obtain ⟨inf, hi, h1⟩ := Option.map_eq_some_iff.1 hs
  have hz : ∀ w, (sizeOf e).run P w = .ok sz w := fun w => by simp [sizeOf, typeInfo, hi, h1]
  refine ⟨if cap = 0 then A else A.map (·.add (0 * sz)), fun w => ?_, fun h0 => ?_⟩
  · rw [run_sliceAt_slice w t _ _ _ _ ht', run_slice_h w t _ n cap ht' .i64 _ (by omega) (by omega), he, hz]
    simp only [Result.andThen, sliced, Nat.sub_zero, Int.toNat_natCast, Nat.zero_mul]
  · obtain ⟨b, off, rfl⟩ := hA h0
    split
    · rfl
    · simp [Addr.add]
theorem lst_off {α : Type} {kk : St α} {w w' : World} {B g n : Nat} {A : Option Addr} {xs : List α} (h : Lst kk w B A n xs) (hB : B ≤ w.heap.size) (hg : w.grownBy w' (some g)) (ho : 0 < n → ∀ b off, A = some ⟨b, off, none⟩ → b ≠ g) : Lst kk w' B A n xs := by
  refine ⟨h.1, h.2.1, fun h0 => ?_⟩
  obtain ⟨b, off, e, hb, hr⟩ := h.2.2 h0
  refine ⟨b, off, e, hb, fun j v hv => hg.cell (hr j v hv) (fun e2 => ho h0 b off e (Option.some.inj e2))⟩
def Off (B J gr : Nat) (A : Option Addr) (n : Nat) : Prop := 0 < n → ∀ b off, A = some ⟨b, off, none⟩ → (b < B ∨ J < b) ∧ b ≠ gr
def Apt (B J : Nat) (A : Option Addr) (n : Nat) : Prop := 0 < n → ∀ b off, A = some ⟨b, off, none⟩ → b < B ∨ J ≤ b
theorem off_low {α : Type} {kk : St α} {w : World} {B J gr n : Nat} {A : Option Addr} {xs : List α} (h : Lst kk w B A n xs) (hB : B ≤ J) (hJ : J < gr) : Off B J gr A n := fun h0 b off e => by
  obtain ⟨b', off', e', hb, _⟩ := h.2.2 h0
  rw [e] at e'
  injection e' with e'
  injection e' with e1 e2
  omega
theorem lst_front {α : Type} {kk : St α} {w : World} {B n h : Nat} {A A' : Option Addr} {xs : List α} (hp : Lst kk w B A n xs) (hh : h ≤ n) (hA : 0 < h → A' = A) : Lst kk w B A' h (xs.take h) := by
  rcases Nat.eq_zero_or_pos h with h0 | h0
  · subst h0
    exact Lst.nil _ _ _ _
  · rw [hA h0]
    exact lst_take hp h hh
def lenOf (v : Value) : Nat := match v with | .slice _ n _ => n | _ => 0
theorem jb_prog (Z : Nat → Value) (K : Int) (A1 : Option Addr) (n1 c1 : Nat) (A2 : Option Addr) (n2 c2 : Nat) (A3 : Option Addr) (n3 c3 : Nat) (r k b wk : Int) (A : Option Addr) (n c : Nat) (K' : Int) (B1 : Option Addr) (m1 d1 : Nat) (B2 : Option Addr) (m2 d2 : Nat) (B3 : Option Addr) (m3 d3 : Nat) : (jb Z K' B1 m1 d1 B2 m2 d2 B3 m3 d3 r k b wk A n c).toList = (jb Z K A1 n1 c1 A2 n2 c2 A3 n3 c3 r k b wk A n c).toList.take 33 ++ (#[.int .i64 K', .slice B1 m1 d1, .slice B2 m2 d2, .slice B3 m3 d3] : Array Value).toList ++ (jb Z K A1 n1 c1 A2 n2 c2 A3 n3 c3 r k b wk A n c).toList.drop (33 + (#[.int .i64 K', .slice B1 m1 d1, .slice B2 m2 d2, .slice B3 m3 d3] : Array Value).size) := rfl
def recs (g : Nat) (w : World) : Nat := match w.cell? ⟨g, 37, none⟩ with | some (.int _ v) => v.toNat | _ => 0
set_option maxRecDepth 100000 in
set_option maxHeartbeats 16000000 in
theorem right_any_job (B : Nat) (Z : Nat → Value) (K : Int) (A1 : Option Addr) (n1 c1 : Nat) (x1 : List O) (A2 : Option Addr) (n2 c2 : Nat) (x2 : List O) (A3 : Option Addr) (n3 c3 : Nat) (x3 : List O) (pr pk pb pw : Int) (A : Option Addr) (n c : Nat) (ps : List (Int × Int)) (w : World) (hZ : Zok Z)
    (h1 : Lst kO w B A1 n1 x1) (h2 : Lst kO w B A2 n2 x2) (h3 : Lst kO w B A3 n3 x3) (hp : Lst kP w B A n ps) (hnc : n ≤ c) (hcm : c ≤ maxLen) (hB : B ≤ w.heap.size) :
    Calls Tryd.prog 8 #[.agg (jb Z K A1 n1 c1 A2 n2 c2 A3 n3 c3 pr pk pb pw A n c)] w fun e w' => ∃ (B1 B2 B3 : Option Addr) (m1 d1 m2 d2 m3 d3 : Nat) (y1 y2 y3 : List O) (r k b wk : Nat) (A' : Option Addr) (c' : Nat) (qs : List (Int × Int)),
      e = .returned (.agg (jb Z (k : Int) B1 m1 d1 B2 m2 d2 B3 m3 d3 (r : Int) (k : Int) (b : Int) (wk : Int) A' r c')) ∧ Lst kO w' w'.heap.size B1 m1 y1 ∧ Lst kO w' w'.heap.size B2 m2 y2 ∧ Lst kO w' w'.heap.size B3 m3 y3 ∧ Lst kP w' w'.heap.size A' r qs ∧ (Apt B w.heap.size B1 m1 ∧ Apt B w.heap.size B2 m2 ∧ Apt B w.heap.size B3 m3 ∧ Apt B w.heap.size A' r ∧ r ≤ c' ∧ c' ≤ maxLen) ∧ checkB (k : Int) y1 y2 y3 = true ∧ rightB (r : Int) (k : Int) (b : Int) (wk : Int) = true ∧ r ≤ 6 ∧ k ≤ 2 ∧ b ≤ 3 ∧ wk ≤ 3 ∧ Below w.heap.size w w' := by
  obtain ⟨N1, a1, r0, hN1, hM1, hC1, hS1, hr1, hr6⟩ := small pr 6 6 rfl (by omega) (by omega)
  obtain ⟨N2, a2, k, hN2, hM2, hC2, hS2, hk1, hk2⟩ := small pk 2 2 rfl (by omega) (by omega)
  obtain ⟨N3, a3, b, hN3, hM3, hC3, hS3, hb1, hb3⟩ := small pb 3 3 rfl (by omega) (by omega)
  obtain ⟨N4, a4, wk, hN4, hM4, hC4, hS4, hw1, hw3⟩ := small pw 3 3 rfl (by omega) (by omega)
  go_enter Tryd.func8, Tryd.ntmps8
  go_wp2_with (first
    | (refine on 1 ?_; refine wpList_box_blk (w := w) rfl 31 _ rfl (jb Z K A1 n1 c1 A2 n2 c2 A3 n3 c3 pr pk pb pw A n c) rfl ?_; intro w1 q1 g1 z1)
    | (refine on 2 ?_; refine wpList_alloc_blk (w := w1) rfl 31 rfl _ zero_job ?_; intro w2 q2 g2 z2; have q1 := q1.grown g2 (by simp); have b2 : Below w.heap.size w w2 := ((Below.refl _ w).grown g1 (Nat.le_refl _) (by simp)).grown g2 g1.size (by simp); have sz : w.heap.size < w1.heap.size := (by have := z1.out; omega); have h37 : w2.cell? ⟨w.heap.size, 37, none⟩ = some (.int .i64 pr) := q1.cell (i := 37) rfl)
    | (refine onS 13 ?_; refine wpList_store_field (w := w2) rfl 3 _ _ rfl w.heap.size 37 rfl 31 (jb Z K A1 n1 c1 A2 n2 c2 A3 n3 c3 pr pk pb pw A n c) (.int .i64 (r0 : Int)) rfl q1 (jb_lt _ _ _ _ _ _ _ _ _ _ _ _ _ _ _ _ _ _ (by omega)) (by kernel_rfl) rfl rfl ?_; intro w3 q1 g3 z3; rw [jb_37] at q1; have q2 := q2.grown g3 (by intro e; injection e with e; omega); have b3 := b2.grown g3 b2.size (fun r e => by cases e; exact Nat.le_refl _); have h38 : w3.cell? ⟨w.heap.size, 38, none⟩ = some (.int .i64 pk) := q1.cell (i := 38) rfl)
    | (refine onS 22 ?_; refine wpList_store_field (w := w3) rfl 3 _ _ rfl w.heap.size 38 rfl 31 (jb Z K A1 n1 c1 A2 n2 c2 A3 n3 c3 (r0 : Int) pk pb pw A n c) (.int .i64 (k : Int)) rfl q1 (jb_lt _ _ _ _ _ _ _ _ _ _ _ _ _ _ _ _ _ _ (by omega)) (by kernel_rfl) rfl rfl ?_; intro w4 q1 g4 z4; rw [jb_38] at q1; have q2 := q2.grown g4 (by intro e; injection e with e; omega); have b4 := b3.grown g4 b3.size (fun r e => by cases e; exact Nat.le_refl _); have h39 : w4.cell? ⟨w.heap.size, 39, none⟩ = some (.int .i64 pb) := q1.cell (i := 39) rfl)
    | (refine onS 31 ?_; refine wpList_store_field (w := w4) rfl 3 _ _ rfl w.heap.size 39 rfl 31 (jb Z K A1 n1 c1 A2 n2 c2 A3 n3 c3 (r0 : Int) (k : Int) pb pw A n c) (.int .i64 (b : Int)) rfl q1 (jb_lt _ _ _ _ _ _ _ _ _ _ _ _ _ _ _ _ _ _ (by omega)) (by kernel_rfl) rfl rfl ?_; intro w5 q1 g5 z5; rw [jb_39] at q1; have q2 := q2.grown g5 (by intro e; injection e with e; omega); have b5 := b4.grown g5 b4.size (fun r e => by cases e; exact Nat.le_refl _); have h40 : w5.cell? ⟨w.heap.size, 40, none⟩ = some (.int .i64 pw) := q1.cell (i := 40) rfl)
    | (refine onS 40 ?_; refine wpList_store_field (w := w5) rfl 3 _ _ rfl w.heap.size 40 rfl 31 (jb Z K A1 n1 c1 A2 n2 c2 A3 n3 c3 (r0 : Int) (k : Int) (b : Int) pw A n c) (.int .i64 (wk : Int)) rfl q1 (jb_lt _ _ _ _ _ _ _ _ _ _ _ _ _ _ _ _ _ _ (by omega)) (by kernel_rfl) rfl rfl ?_; intro w6 q1 g6 z6; rw [jb_40] at q1; have q2 := q2.grown g6 (by intro e; injection e with e; omega); have b6 := b5.grown g6 b5.size (fun r e => by cases e; exact Nat.le_refl _)))
  simp only [Act.put]
  have q2 : Blk w6 w1.heap.size 31 (jb (fun i => if i < 32 then .int .u8 0 else .int .u64 0) 0 none 0 0 none 0 0 none 0 0 0 0 0 0 none 0 0) := q2
  have hk38 := hk1
  obtain ⟨gr, hgr⟩ : ∃ g, w1.heap.size = g := ⟨_, rfl⟩
  rw [hgr] at q2 sz
  have HGR := Lib.hid hgr
  clear hgr g1 g2 g3 g4 g5 g6 z1 z2 z3 z4 z5 z6 b2 b3 b4 b5 h37 h38 h39 h40 hN1 hM1 hC1 hS1 hN2 hM2 hC2 hS2 hN3 hM3 hC3 hS3 hN4 hM4 hC4 hS4
  generalize hJ : w.heap.size = J at *
  have HF := Lib.hid (fun r hr1 hr6 => fill_says r k b hr1 hr6 hk1 hk2 hb1 hb3)
  have HRS := Lib.hid (fun r hr1 hr6 h7 => right_small (r := r) (k := k) (b := b) (wk := wk) hr1 hr6 hk1 hk2 hb1 hb3 hw1 hw3 h7)
  have HJ := Lib.hid hJ
  have hb0 : (b : Int) ≠ 0 := by omega
  have HK1 := Lib.hid hk1
  clear hk1 hk38 hb1 hw1 hJ
  go_loopw [] (fun wr => ∃ r : Nat, 1 ≤ r ∧ r ≤ 6 ∧ Blk wr J 31 (jb Z K A1 n1 c1 A2 n2 c2 A3 n3 c3 (r : Int) (k : Int) (b : Int) (wk : Int) A n c) ∧ Blk wr gr 31 (jb (fun i => if i < 32 then .int .u8 0 else .int .u64 0) 0 none 0 0 none 0 0 none 0 0 0 0 0 0 none 0 0) ∧ Below J w wr) (fun W => recs J W)
  case atStart => exact ⟨r0, hr1, hr6, q1, q2, b6⟩
  case round =>
    clear q1 q2 b6 hr1 hr6
    obtain ⟨r, hr1, hr6, q1, q2, b6⟩ := hrel
    have hbz : J ≤ wr.heap.size := Nat.le_trans (Nat.le_of_eq HJ.out.symm) b6.size
    obtain ⟨d, m, e1, e2, e3, e4, e5, e6, e7, e9⟩ := HF.out r hr1 hr6
    have h37 : wr.cell? ⟨J, 37, none⟩ = some (.int .i64 (r : Int)) := q1.cell (i := 37) rfl
    have E1 := Lib.hid e1
    have E2 := Lib.hid e2
    have E3 := Lib.hid (show IntKind.i64.wrap (((r + b - 1 : Nat) : Int).tdiv (b : Int)) = (d : Int) by rw [e3, e4])
    have E5 := Lib.hid e5
    clear e1 e2 e3 e4 e5 e9
    by_cases h7 : 7 < m
    · have hd7 := Lib.hid (show decide ((7 : Int) < (m : Int)) = true by simp; omega)
      have hr2 := e7 h7
      have E8 := Lib.hid (show IntKind.i64.wrap ((r : Int) - 1) = ((r - 1 : Nat) : Int) by rw [IntKind.wrap_i64]; omega)
      go_wp2_with fail
      refine wp_region_held (S := fun W => Below wr.heap.size wr W) (by kernel_rfl) ?_
      change wpAnyH _ _ _ _ _ _ _ _ wr.drew
      have c0_0 := (Below.refl wr.heap.size wr).drew
      refine Held.tk (v := .pointer (some ⟨J, 37, none⟩)) 0 (some 41) rfl (Held.y_field (k := 37) (s := 3) rfl rfl Tryd.underlying31 rfl (by kernel_rfl) rfl) c0_0 ?_
      simp only [Act.put, Z1, Z2, Z3]
      refine Held.tk (v := .pointer (some ⟨J, 38, none⟩)) 1 (some 42) rfl (Held.y_field (k := 1) (s := 0) rfl rfl Tryd.underlying28 rfl (by kernel_rfl) rfl) c0_0 ?_
      simp only [Act.put, Z1, Z2, Z3]
      refine Held.tk (v := .int .i64 ((k : Int))) 2 (some 43) rfl (Held.y_load rfl rfl (by kernel_rfl) (fun W hW => (q1.after hW).cell rfl)) c0_0 ?_
      simp only [Act.put, Z1, Z2, Z3]
      refine Held.tk (v := .pointer (some ⟨J, 37, none⟩)) 3 (some 44) rfl (Held.y_field (k := 37) (s := 3) rfl rfl Tryd.underlying31 rfl (by kernel_rfl) rfl) c0_0 ?_
      simp only [Act.put, Z1, Z2, Z3]
      refine Held.tk (v := .pointer (some ⟨J, 37, none⟩)) 4 (some 45) rfl (Held.y_field (k := 0) (s := 0) rfl rfl Tryd.underlying28 rfl (by kernel_rfl) rfl) c0_0 ?_
      simp only [Act.put, Z1, Z2, Z3]
      refine Held.tk (v := .int .i64 ((r : Int))) 5 (some 46) rfl (Held.y_load rfl rfl (by kernel_rfl) (fun W hW => (q1.after hW).cell rfl)) c0_0 ?_
      simp only [Act.put, Z1, Z2, Z3]
      refine Held.tk (v := .pointer (some ⟨J, 37, none⟩)) 6 (some 47) rfl (Held.y_field (k := 37) (s := 3) rfl rfl Tryd.underlying31 rfl (by kernel_rfl) rfl) c0_0 ?_
      simp only [Act.put, Z1, Z2, Z3]
      refine Held.tk (v := .pointer (some ⟨J, 39, none⟩)) 7 (some 48) rfl (Held.y_field (k := 2) (s := 0) rfl rfl Tryd.underlying28 rfl (by kernel_rfl) rfl) c0_0 ?_
      simp only [Act.put, Z1, Z2, Z3]
      refine Held.tk (v := .int .i64 ((b : Int))) 8 (some 49) rfl (Held.y_load rfl rfl (by kernel_rfl) (fun W hW => (q1.after hW).cell rfl)) c0_0 ?_
      simp only [Act.put, Z1, Z2, Z3]
      refine Held.tk (v := .int .i64 (((r + b : Nat) : Int))) 9 (some 50) rfl (Held.y_int rfl rfl rfl (Held.run_add 3 .i64 (E1.out))) c0_0 ?_
      simp only [Act.put, Z1, Z2, Z3]
      refine Held.tk (v := .int .i64 (((r + b - 1 : Nat) : Int))) 10 (some 51) rfl (Held.y_int rfl rfl rfl (Held.run_sub 3 .i64 (E2.out))) c0_0 ?_
      simp only [Act.put, Z1, Z2, Z3]
      refine Held.tk (v := .pointer (some ⟨J, 37, none⟩)) 11 (some 52) rfl (Held.y_field (k := 37) (s := 3) rfl rfl Tryd.underlying31 rfl (by kernel_rfl) rfl) c0_0 ?_
      simp only [Act.put, Z1, Z2, Z3]
      refine Held.tk (v := .pointer (some ⟨J, 39, none⟩)) 12 (some 53) rfl (Held.y_field (k := 2) (s := 0) rfl rfl Tryd.underlying28 rfl (by kernel_rfl) rfl) c0_0 ?_
      simp only [Act.put, Z1, Z2, Z3]
      refine Held.tk (v := .int .i64 ((b : Int))) 13 (some 54) rfl (Held.y_load rfl rfl (by kernel_rfl) (fun W hW => (q1.after hW).cell rfl)) c0_0 ?_
      simp only [Act.put, Z1, Z2, Z3]
      refine Held.tk (v := .int .i64 (d : Int)) 14 (some 55) rfl (Bi.y_quo ((r + b - 1 : Nat) : Int) (b : Int) rfl rfl rfl (Held.run_quo 3 .i64 hb0 E3.out)) c0_0 ?_
      simp only [Act.put, Z1, Z2, Z3]
      refine Held.tk (v := .int .i64 ((m : Int))) 15 (some 56) rfl (Held.y_int rfl rfl rfl (Held.run_mul 3 .i64 (E5.out))) c0_0 ?_
      simp only [Act.put, Z1, Z2, Z3]
      refine Held.tk (v := .bool true) 16 (some 57) rfl (Held.y_gtr rfl rfl rfl (hd7.out)) c0_0 ?_
      simp only [Act.put, Z1, Z2, Z3]
      refine wpAnyH_done (by kernel_rfl) ?_ _
      obtain ⟨W2, hW2⟩ : ∃ W, wr.drew = W := ⟨_, rfl⟩
      rw [hW2]
      have d2 : Below wr.heap.size wr W2 := hW2 ▸ (Below.refl wr.heap.size wr).drew
      have q1 := q1.after d2
      have q2 := q2.after d2
      have d2 := b6.trans (d2.mono hbz)
      have hbz2 : J ≤ W2.heap.size := Nat.le_trans (Nat.le_of_eq HJ.out.symm) d2.size
      have h37' : W2.cell? ⟨J, 37, none⟩ = some (.int .i64 (r : Int)) := q1.cell (i := 37) rfl
      clear b6
      go_wp2_with (first
        | (refine on 61 ?_; refine wpList_run (w := W2) rfl (v := .int .i64 ((r - 1 : Nat) : Int)) (Held.y_int (S := fun _ => True) rfl rfl rfl (Held.run_sub 3 .i64 E8.out) _ trivial) ?_)
        | (refine onS 63 ?_; refine wpList_store_field (w := W2) rfl 3 _ _ rfl J 37 rfl 31 (jb Z K A1 n1 c1 A2 n2 c2 A3 n3 c3 (r : Int) (k : Int) (b : Int) (wk : Int) A n c) (.int .i64 ((r - 1 : Nat) : Int)) rfl q1 (jb_lt _ _ _ _ _ _ _ _ _ _ _ _ _ _ _ _ _ _ (by omega)) (by kernel_rfl) rfl rfl ?_; intro w3 q1 g3 z3; rw [jb_37] at q1; have q2 := q2.grown g3 (by intro e; injection e with e; omega); have b3 := d2.grown g3 hbz2 (fun r e => by cases e; exact Nat.le_refl _)))
      have h37n : w3.cell? ⟨J, 37, none⟩ = some (.int .i64 ((r - 1 : Nat) : Int)) := q1.cell (i := 37) rfl
      simp only [Act.put]
      go_roundw
      case rel => exact ⟨r - 1, by omega, by omega, q1, q2, b3⟩
      case measure =>
        unfold recs
        rw [h37n, h37]
        show ((r - 1 : Nat) : Int).toNat < ((r : Nat) : Int).toNat
        omega
    · have hd7 := Lib.hid (show decide ((7 : Int) < (m : Int)) = false by simp; omega)
      have h7' : (m : Int) ≤ 7 := by omega
      have hR := HRS.out r hr1 hr6 (by rw [e6]; exact h7')
      go_wp2_with fail
      refine wp_region_held (S := fun W => Below wr.heap.size wr W) (by kernel_rfl) ?_
      change wpAnyH _ _ _ _ _ _ _ _ wr.drew
      have c0_0 := (Below.refl wr.heap.size wr).drew
      refine Held.tk (v := .pointer (some ⟨J, 37, none⟩)) 0 (some 41) rfl (Held.y_field (k := 37) (s := 3) rfl rfl Tryd.underlying31 rfl (by kernel_rfl) rfl) c0_0 ?_
      simp only [Act.put, Z1, Z2, Z3]
      refine Held.tk (v := .pointer (some ⟨J, 38, none⟩)) 1 (some 42) rfl (Held.y_field (k := 1) (s := 0) rfl rfl Tryd.underlying28 rfl (by kernel_rfl) rfl) c0_0 ?_
      simp only [Act.put, Z1, Z2, Z3]
      refine Held.tk (v := .int .i64 ((k : Int))) 2 (some 43) rfl (Held.y_load rfl rfl (by kernel_rfl) (fun W hW => (q1.after hW).cell rfl)) c0_0 ?_
      simp only [Act.put, Z1, Z2, Z3]
      refine Held.tk (v := .pointer (some ⟨J, 37, none⟩)) 3 (some 44) rfl (Held.y_field (k := 37) (s := 3) rfl rfl Tryd.underlying31 rfl (by kernel_rfl) rfl) c0_0 ?_
      simp only [Act.put, Z1, Z2, Z3]
      refine Held.tk (v := .pointer (some ⟨J, 37, none⟩)) 4 (some 45) rfl (Held.y_field (k := 0) (s := 0) rfl rfl Tryd.underlying28 rfl (by kernel_rfl) rfl) c0_0 ?_
      simp only [Act.put, Z1, Z2, Z3]
      refine Held.tk (v := .int .i64 ((r : Int))) 5 (some 46) rfl (Held.y_load rfl rfl (by kernel_rfl) (fun W hW => (q1.after hW).cell rfl)) c0_0 ?_
      simp only [Act.put, Z1, Z2, Z3]
      refine Held.tk (v := .pointer (some ⟨J, 37, none⟩)) 6 (some 47) rfl (Held.y_field (k := 37) (s := 3) rfl rfl Tryd.underlying31 rfl (by kernel_rfl) rfl) c0_0 ?_
      simp only [Act.put, Z1, Z2, Z3]
      refine Held.tk (v := .pointer (some ⟨J, 39, none⟩)) 7 (some 48) rfl (Held.y_field (k := 2) (s := 0) rfl rfl Tryd.underlying28 rfl (by kernel_rfl) rfl) c0_0 ?_
      simp only [Act.put, Z1, Z2, Z3]
      refine Held.tk (v := .int .i64 ((b : Int))) 8 (some 49) rfl (Held.y_load rfl rfl (by kernel_rfl) (fun W hW => (q1.after hW).cell rfl)) c0_0 ?_
      simp only [Act.put, Z1, Z2, Z3]
      refine Held.tk (v := .int .i64 (((r + b : Nat) : Int))) 9 (some 50) rfl (Held.y_int rfl rfl rfl (Held.run_add 3 .i64 (E1.out))) c0_0 ?_
      simp only [Act.put, Z1, Z2, Z3]
      refine Held.tk (v := .int .i64 (((r + b - 1 : Nat) : Int))) 10 (some 51) rfl (Held.y_int rfl rfl rfl (Held.run_sub 3 .i64 (E2.out))) c0_0 ?_
      simp only [Act.put, Z1, Z2, Z3]
      refine Held.tk (v := .pointer (some ⟨J, 37, none⟩)) 11 (some 52) rfl (Held.y_field (k := 37) (s := 3) rfl rfl Tryd.underlying31 rfl (by kernel_rfl) rfl) c0_0 ?_
      simp only [Act.put, Z1, Z2, Z3]
      refine Held.tk (v := .pointer (some ⟨J, 39, none⟩)) 12 (some 53) rfl (Held.y_field (k := 2) (s := 0) rfl rfl Tryd.underlying28 rfl (by kernel_rfl) rfl) c0_0 ?_
      simp only [Act.put, Z1, Z2, Z3]
      refine Held.tk (v := .int .i64 ((b : Int))) 13 (some 54) rfl (Held.y_load rfl rfl (by kernel_rfl) (fun W hW => (q1.after hW).cell rfl)) c0_0 ?_
      simp only [Act.put, Z1, Z2, Z3]
      refine Held.tk (v := .int .i64 (d : Int)) 14 (some 55) rfl (Bi.y_quo ((r + b - 1 : Nat) : Int) (b : Int) rfl rfl rfl (Held.run_quo 3 .i64 hb0 E3.out)) c0_0 ?_
      simp only [Act.put, Z1, Z2, Z3]
      refine Held.tk (v := .int .i64 ((m : Int))) 15 (some 56) rfl (Held.y_int rfl rfl rfl (Held.run_mul 3 .i64 (E5.out))) c0_0 ?_
      simp only [Act.put, Z1, Z2, Z3]
      refine Held.tk (v := .bool false) 16 (some 57) rfl (Held.y_gtr rfl rfl rfl (hd7.out)) c0_0 ?_
      simp only [Act.put, Z1, Z2, Z3]
      refine wpAnyH_done (by kernel_rfl) ?_ _
      obtain ⟨W2, hW2⟩ : ∃ W, wr.drew = W := ⟨_, rfl⟩
      rw [hW2]
      have d2 : Below wr.heap.size wr W2 := hW2 ▸ (Below.refl wr.heap.size wr).drew
      have q1 := q1.after d2
      have q2 := q2.after d2
      have d2 := b6.trans (d2.mono hbz)
      have hbz2 : J ≤ W2.heap.size := Nat.le_trans (Nat.le_of_eq HJ.out.symm) d2.size
      clear b6 e6 e7 hd7 h7 h7' h37 hW2
      have hr33 : W2.rangeAt J 33 [.int .i64 K, .slice A1 n1 c1, .slice A2 n2 c2, .slice A3 n3 c3] := blk_range q1 (by rfl)
      have hl1 := q1.lt
      have hl2 := q2.lt
      generalize hgp : W2.heap.size = gp at *
      have HGP := Lib.hid hgp
      go_upto_region 9 with (first
        | (refine on 65 ?_; refine wpList_run (w := W2) rfl (v := .agg #[.int .i64 K, .slice A1 n1 c1, .slice A2 n2 c2, .slice A3 n3 c3]) (y_load_range (S := fun W => W = W2) (n := 4) (cs := [.int .i64 K, .slice A1 n1 c1, .slice A2 n2 c2, .slice A3 n3 c3]) rfl rfl Tryd.underlying26 rfl info_prog rfl (fun W hW => by rw [hW]; exact hr33) _ rfl) ?_)
        | (refine on 3 ?_; refine wpList_alloc_blk (w := W2) rfl 26 rfl _ prog_zero ?_; rw [HGP.out]; intro w3 qg g3 z3; have q1 := q1.grown g3 (by simp); have q2 := q2.grown g3 (by simp); have b3 := d2.grown g3 (by rw [HGP.out]; exact hbz2) (by simp); have s3 : gp < w3.heap.size := (by have := z3.out; omega))
        | (refine onS 3 ?_; refine wpList_store_blk (w := w3) rfl 26 _ _ rfl gp 4 rfl 26 _ #[.int .i64 K, .slice A1 n1 c1, .slice A2 n2 c2, .slice A3 n3 c3] rfl qg info_prog rfl rfl (by kernel_rfl) ?_; intro w4 qg g4 z4; have q1 := q1.grown g4 (by intro e; injection e with e; omega); have q2 := q2.grown g4 (by intro e; injection e with e; omega); have b4 := b3.grown g4 (by omega) (fun r e => by cases e; omega); have s4 := g4.size; have h38 : w4.cell? ⟨J, 38, none⟩ = some (.int .i64 (k : Int)) := q1.cell (i := 38) rfl)
        | (refine onS 69 ?_; refine wpList_store_field (w := w4) rfl 3 _ _ rfl gp 0 rfl 26 #[.int .i64 K, .slice A1 n1 c1, .slice A2 n2 c2, .slice A3 n3 c3] (.int .i64 (k : Int)) rfl qg (by simp) (by kernel_rfl) rfl rfl ?_; intro w5 qg g5 z5; have q1 := q1.grown g5 (by intro e; injection e with e; omega); have q2 := q2.grown g5 (by intro e; injection e with e; omega); have b5 := b4.grown g5 (by omega) (fun r e => by cases e; omega)))
      have qg : Blk w5 gp 26 #[.int .i64 (k : Int), .slice A1 n1 c1, .slice A2 n2 c2, .slice A3 n3 c3] := qg
      have qg5 := qg
      have g1 : w5.cell? ⟨gp, 1, none⟩ = some (.slice A1 n1 c1) := qg.cell (i := 1) rfl
      have g2 : w5.cell? ⟨gp, 2, none⟩ = some (.slice A2 n2 c2) := qg.cell (i := 2) rfl
      have g3 : w5.cell? ⟨gp, 3, none⟩ = some (.slice A3 n3 c3) := qg.cell (i := 3) rfl
      clear g4 g5 z4 z5 z3 b4 b3 h38 hr33 s4
      simp only [Act.put]
      rw [HGR.out]
      go_cut [90] from 70 to 90 (fun s90 wx => ∃ bad : Bool, s90 = .bool bad ∧ Blk wx J 31 (jb Z K A1 n1 c1 A2 n2 c2 A3 n3 c3 (r : Int) (k : Int) (b : Int) (wk : Int) A n c) ∧ Blk wx gr 31 (jb (fun i => if i < 32 then .int .u8 0 else .int .u64 0) 0 none 0 0 none 0 0 none 0 0 0 0 0 0 none 0 0) ∧ Blk wx gp 26 #[.int .i64 (k : Int), .slice A1 n1 c1, .slice A2 n2 c2, .slice A3 n3 c3] ∧ Below J w wx ∧ (bad = false → checkB (k : Int) x1 x2 x3 = true))
      case first =>
        by_cases k1 : 60 < n1
        · have k1' : (60 : Int) < (n1 : Int) := by omega
          go_wp2_with fail
          go_meet; exact ⟨true, rfl, q1, q2, qg, b5, fun h => by cases h⟩
        · have k1' : ¬ (60 : Int) < (n1 : Int) := by omega
          by_cases k2 : 60 < n2
          · have k2' : (60 : Int) < (n2 : Int) := by omega
            go_wp2_with fail
            go_meet; exact ⟨true, rfl, q1, q2, qg, b5, fun h => by cases h⟩
          · have k2' : ¬ (60 : Int) < (n2 : Int) := by omega
            by_cases k3 : 60 < n3
            · have k3' : (60 : Int) < (n3 : Int) := by omega
              go_wp2_with fail
              go_meet; exact ⟨true, rfl, q1, q2, qg, b5, fun h => by cases h⟩
            · have k3' : ¬ (60 : Int) < (n3 : Int) := by omega
              go_wp2_with (refine on 87 ?_; refine wpList_load_blk (w := w5) rfl 26 _ rfl gp 4 rfl 26 _ qg _ Tryd.underlying26 rfl info_prog rfl ?_)
              refine (Cn.rcheck_any B (k : Int) A1 A2 A3 n1 c1 n2 c2 n3 c3 x1 x2 x3 w5 (h1.below (b5.mono hB)) (h2.below (b5.mono hB)) (h3.below (b5.mono hB)) (by have := qg.lt; omega) (by omega) (by omega) (by omega)).mono ?_
              rintro e w6 ⟨rfl, b6⟩
              have q1 := q1.after b6
              have q2 := q2.after b6
              have qg := qg.after b6
              have b6 := b5.trans (b6.mono (by have := qg5.lt; omega))
              by_cases hC : checkB (k : Int) x1 x2 x3 = true
              · have e0 : checkE (k : Int) x1 x2 x3 = 0 := by rw [checkE, if_pos hC]
                rw [e0]
                go_wp2_with fail
                go_meet; exact ⟨false, rfl, q1, q2, qg, b6, fun _ => hC⟩
              · have e0 : checkE (k : Int) x1 x2 x3 = 8 := by rw [checkE, if_neg hC]
                rw [e0]
                go_wp2_with fail
                go_meet; exact ⟨true, rfl, q1, q2, qg, b6, fun h => by cases h⟩
      case rest =>
        clear q1 q2 qg b5 g1 g2 g3 qg5
        obtain ⟨bad, rfl, q1, q2, qg, b6, hbad⟩ := hcut
        obtain ⟨w6, hw6⟩ : ∃ x, wc = x := ⟨_, rfl⟩
        rw [hw6] at q1 q2 qg b6 ⊢
        have h38 : w6.cell? ⟨J, 38, none⟩ = some (.int .i64 (k : Int)) := q1.cell (i := 38) rfl
        have hl6 := qg.lt
        go_upto_if 90 with fail
        go_cut [] from 91 to 94 (fun wx => ∃ (B1 B2 B3 : Option Addr) (m1 d1 m2 d2 m3 d3 : Nat) (y1 y2 y3 : List O), Blk wx J 31 (jb Z K A1 n1 c1 A2 n2 c2 A3 n3 c3 (r : Int) (k : Int) (b : Int) (wk : Int) A n c) ∧ Blk wx gr 31 (jb (fun i => if i < 32 then .int .u8 0 else .int .u64 0) 0 none 0 0 none 0 0 none 0 0 0 0 0 0 none 0 0) ∧ Blk wx gp 26 #[.int .i64 (k : Int), .slice B1 m1 d1, .slice B2 m2 d2, .slice B3 m3 d3] ∧ Lst kO wx wx.heap.size B1 m1 y1 ∧ Lst kO wx wx.heap.size B2 m2 y2 ∧ Lst kO wx wx.heap.size B3 m3 y3 ∧ Off B J gr B1 m1 ∧ Off B J gr B2 m2 ∧ Off B J gr B3 m3 ∧ checkB (k : Int) y1 y2 y3 = true ∧ Below J w wx)
        case first =>
          cases bad with
          | true =>
            go_wp2_with fail
            refine (sums_any k HK1.out hk2 w6).mono ?_
            rintro e w7 ⟨SA, sn, sc, sg, rfl, l1, l2, sA, sG, b7⟩
            have q1 := q1.after b7
            have q2 := q2.after b7
            have qg := qg.after b7
            have b7' := b6.trans (b7.mono (by omega))
            have hl7 := b7.size
            go_wp2_with (refine onS 3 ?_; refine wpList_store_blk (w := w7) rfl 26 _ _ rfl gp 4 rfl 26 _ #[.int .i64 (k : Int), .slice SA sn sc, .slice (some ⟨sg, 0, none⟩) 1 1, .slice none 0 0] rfl qg info_prog rfl rfl (by kernel_rfl) ?_; intro w8 qg g8 z8)
            have q1 := q1.grown g8 (by intro e; injection e with e; omega)
            have q2 := q2.grown g8 (by intro e; injection e with e; omega)
            have b8 := b7'.grown g8 (by omega) (fun r e => by cases e; omega)
            have s8 := g8.size
            go_meet
            exact ⟨SA, some ⟨sg, 0, none⟩, none, sn, sc, 1, 1, 0, 0, sumM k, [OA], [], q1, q2, qg, (lst_off l1 (Nat.le_refl _) g8 (fun _ b off e => by have := sA b off e; omega)).more s8, (lst_off l2 (Nat.le_refl _) g8 (fun _ b off e => by injection e with e; injection e with e; omega)).more s8, Lst.nil _ _ _ _, (fun _ b off e => by have := sA b off e; omega), (fun _ b off e => by injection e with e; injection e with e; omega), (fun h => by omega), sum_check k HK1.out hk2, b8⟩
          | false =>
            go_wp2_with fail
            have hC := hbad trivial
            have hBw : B ≤ w6.heap.size := by omega
            go_meet
            exact ⟨A1, A2, A3, n1, c1, n2, c2, n3, c3, x1, x2, x3, q1, q2, qg, (h1.below (b6.mono hB)).more hBw, (h2.below (b6.mono hB)).more hBw, (h3.below (b6.mono hB)).more hBw, off_low h1 hB sz, off_low h2 hB sz, off_low h3 hB sz, hC, b6⟩
        case rest =>
          clear q1 q2 qg b6 h38 hbad hl6
          obtain ⟨B1, B2, B3, m1, d1, m2, d2, m3, d3, y1, y2, y3, q1, q2, qg, l1, l2, l3, f1, f2, f3, hC, b0⟩ := hcut
          obtain ⟨v0, hv0⟩ : ∃ x, wc = x := ⟨_, rfl⟩
          rw [hv0] at q1 q2 qg l1 l2 l3 b0 ⊢
          have hhl : min n r ≤ n ∧ min n r ≤ r := ⟨Nat.min_le_left _ _, Nat.min_le_right _ _⟩
          obtain ⟨h, hh⟩ : ∃ h, min n r = h := ⟨_, rfl⟩
          have HMIN := Lib.hid (show (if (r : Int) < (n : Int) then (r : Int) else (n : Int)) = (h : Int) by rw [← hh]; split <;> omega)
          rw [hh] at hhl
          obtain ⟨hhn, hhr⟩ := hhl
          obtain ⟨A', hsl, hA'⟩ := run_front_any (P := Tryd.prog) (t := 29) (e := 39) 2 Tryd.underlying29 (by kernel_rfl) A n c (h := h) (by omega) (fun h0 => by obtain ⟨b1, off, e, _⟩ := hp.2.2 (by omega); exact ⟨b1, off, e⟩)
          have hl0 := q1.lt
          clear hv0 hh
          go_wp2_with (first
            | (refine on 95 ?_; refine wpList_load_blk (w := v0) rfl 26 _ rfl gp 4 rfl 26 _ qg _ Tryd.underlying26 rfl info_prog rfl ?_)
            | (refine onS 96 ?_; refine wpList_store_sub (w := v0) rfl 26 _ _ rfl J 33 rfl 31 (jb Z K A1 n1 c1 A2 n2 c2 A3 n3 c3 (r : Int) (k : Int) (b : Int) (wk : Int) A n c) #[.int .i64 (k : Int), .slice B1 m1 d1, .slice B2 m2 d2, .slice B3 m3 d3] (jb Z (k : Int) B1 m1 d1 B2 m2 d2 B3 m3 d3 (r : Int) (k : Int) (b : Int) (wk : Int) A n c) rfl q1 (by show 33 + 4 ≤ 42; omega) info_prog (by kernel_rfl) (jb_prog ..) ?_; intro v1 q1 g1; have q2 := q2.grown g1 (by intro e; injection e with e; omega); have l1 := lst_off l1 (Nat.le_refl _) g1 (fun h0 b off e => by have := (f1 h0 b off e).1; omega); have l2 := lst_off l2 (Nat.le_refl _) g1 (fun h0 b off e => by have := (f2 h0 b off e).1; omega); have l3 := lst_off l3 (Nat.le_refl _) g1 (fun h0 b off e => by have := (f3 h0 b off e).1; omega); have b1 := b0.grown g1 (Nat.le_of_lt hl0) (fun r e => by cases e; exact Nat.le_refl _); have hp1 := hp.below (b1.mono hB); have s1 := g1.size; have h41 : v1.cell? ⟨J, 41, none⟩ = some (.slice A n c) := q1.cell (i := 41) rfl; have h37 : v1.cell? ⟨J, 37, none⟩ = some (.int .i64 (r : Int)) := q1.cell (i := 37) rfl; have lq : Lst kP v1 B A' h (ps.take h) := lst_front hp1 hhn hA'; have hBv : B ≤ v1.heap.size := Nat.le_trans hB (Nat.le_of_lt q1.lt))
            | (refine on 105 ?_; refine wpList_run (w := v1) rfl (v := .int .i64 (h : Int)) (Held.y_min (S := fun _ => True) rfl rfl rfl HMIN.out _ trivial) ?_)
            | (refine on 106 ?_; refine wpList_run (w := v1) rfl (v := .slice A' h c) (Held.y_slice (S := fun _ => True) rfl hsl _ trivial) ?_)
            | (refine on 107 ?_; refine wpList_append_all (k := kP) (w := v1) rfl _ _ 29 39 rfl Tryd.underlying29 _ 16 info_kP rfl v1.heap.size B h c A' (.slice none 0 0) [] (ps.take h) rfl rfl (OwnL.nil _ _ _ _) lq (by simp; omega) (by omega) (Nat.le_refl _) ?_; intro V v2 o2 g2 me2; obtain ⟨A2, n2, c2, rfl, hn2, _⟩ := OwnL.form2 o2; have q1 := q1.grown g2 (by simp [Value.ownBlock]); have q2 := q2.grown g2 (by simp [Value.ownBlock]); have b2 := (Below.refl v1.heap.size v1).grown g2 (Nat.le_refl _) (by simp [Value.ownBlock])))
          have hn2' : n2 = h := by rw [← hn2.out]; simp [hp.1]; omega
          rw [List.nil_append] at o2
          have hxl : (ps.take h).length = n2 := by rw [hn2']; simp [hp.1]; omega
          have hxw : ∀ x ∈ ps.take h, pwf x := fun x hx => hp.2.1 x (List.mem_of_mem_take hx)
          have hn2r : n2 ≤ r := by omega
          have hr64 : r ≤ 6 := hr6
          generalize ps.take h = xs0 at *
          clear lq hsl hA' HMIN hhn hhr hn2 hn2' me2 g2 g1 h41 h37 hp1
          go_loopw [4] (fun sv wr => ∃ (t : Nat) (Av : Option Addr) (cv : Nat) (xs : List (Int × Int)), t ≤ r ∧ sv = .slice Av t cv ∧ xs.length = t ∧ (∀ x ∈ xs, pwf x) ∧ Blk wr J 31 (jb Z (k : Int) B1 m1 d1 B2 m2 d2 B3 m3 d3 (r : Int) (k : Int) (b : Int) (wk : Int) A n c) ∧ Blk wr gr 31 (jb (fun i => if i < 32 then .int .u8 0 else .int .u64 0) 0 none 0 0 none 0 0 none 0 0 0 0 0 0 none 0 0) ∧ OwnL kP 39 wr v1.heap.size (.slice Av t cv) xs ∧ Below v1.heap.size v1 wr) (fun sv _ => r - lenOf sv)
          case atStart => exact ⟨n2, A2, c2, xs0, hn2r, rfl, hxl, hxw, q1, q2, o2, b2⟩
          case round =>
            clear q1 q2 o2 b2 hxl hxw hn2r
            obtain ⟨t, Av, cv, xs, ht, rfl, hxl, hxw, q1, q2, o2, b2⟩ := hrel
            have h37 : wr.cell? ⟨J, 37, none⟩ = some (.int .i64 (r : Int)) := q1.cell (i := 37) rfl
            have ne1 : (Value.slice Av t cv).ownBlock ≠ some J := OwnL.ne_blk o2 q1 (by decide)
            have ne2 : (Value.slice Av t cv).ownBlock ≠ some gr := OwnL.ne_blk o2 q2 (by decide)
            have hs2 := b2.size
            by_cases hlt : t < r
            · have hlt' : (t : Int) < (r : Int) := by omega
              obtain ⟨tm, htm, htm3⟩ : ∃ tm : Nat, (t : Int).tmod 3 = (tm : Int) ∧ tm < 3 := ⟨t % 3, by rw [Int.tmod_eq_emod_of_nonneg (by omega)]; omega, by omega⟩
              have HTM := Lib.hid htm
              have hwt : pwf ((tm : Int), 1) := ⟨nat_wf (by omega), rfl⟩
              clear htm
              go_wp2_with (first
                | (refine on 117 ?_; refine wpList_run (w := wr) rfl (v := .int .i64 (tm : Int)) (Bi.y_rem (S := fun _ => True) (t : Int) 3 rfl rfl rfl (Held.run_rem 3 .i64 (by omega) HTM.out) _ trivial) ?_)
                | (refine on 118 ?_; refine wpList_build_blk rfl 39 _ rfl #[.int .i64 (tm : Int), .int .i64 1] (by kernel_rfl) ?_)
                | (refine on 119 ?_; refine wpList_build_lst (w := wr) (k := kP) rfl 29 39 1 _ rfl Tryd.underlying29 _ 16 info_kP rfl [((tm : Int), 1)] rfl (by kernel_rfl) (by omega) (by decide) ?_; intro x1 qx gx zx; have q1 := q1.grown gx (by simp); have q2 := q2.grown gx (by simp); have o2 := OwnL.below o2 ((Below.refl _ _).grown gx (Nat.le_refl _) (by simp)); have lx : Lst kP x1 x1.heap.size (some ⟨wr.heap.size, 0, none⟩) 1 [((tm : Int), 1)] := lst_whole qx rfl (fun y hy => by rw [List.mem_singleton.1 hy]; exact hwt); have b3 := b2.grown gx hs2 (by simp); have hs3 := b3.size)
                | (refine on 120 ?_; refine wpList_append_all (k := kP) (w := x1) rfl _ _ 29 39 rfl Tryd.underlying29 _ 16 info_kP rfl v1.heap.size x1.heap.size 1 1 (some ⟨wr.heap.size, 0, none⟩) (.slice Av t cv) xs [((tm : Int), 1)] rfl rfl o2 lx (by rw [hxl]; omega) (by omega) hs3 ?_; intro V x2 o4 g4 me4; obtain ⟨A4, n4, c4, rfl, hn4, _⟩ := OwnL.form2 o4; have q1 := q1.grown g4 (Ne.symm ne1); have q2 := q2.grown g4 (Ne.symm ne2); have b4 := b3.grown g4 hs3 (fun r e => (OwnL.lt o2 r e).1)))
              have hn4' : t + 1 = n4 := by rw [← hn4.out, List.length_append, hxl]; rfl
              subst hn4'
              go_roundw
              case rel => exact ⟨t + 1, A4, c4, xs ++ [((tm : Int), 1)], by omega, rfl, by rw [List.length_append, hxl]; rfl, fun x hx => by
                rcases List.mem_append.1 hx with hx | hx
                · exact hxw x hx
                · rw [List.mem_singleton.1 hx]; exact hwt, q1, q2, o4, b4⟩
              case measure => show r - (t + 1) < r - t; omega
            · obtain rfl : t = r := by omega
              have l1 := l1.more s1
              have l2 := l2.more s1
              have l3 := l3.more s1
              have l1 := (l1.below b2).more hs2
              have l2 := (l2.below b2).more hs2
              have l3 := (l3.below b2).more hs2
              have b3 := b1.trans (b2.mono (by have := q1.lt; omega))
              have hl1 := q1.lt
              have hJw : J ≤ wr.heap.size := Nat.le_of_lt hl1
              go_wp2_with (first
                | (refine onS 122 ?_; refine wpList_store_field (w := wr) rfl 29 _ _ rfl J 41 rfl 31 (jb Z (k : Int) B1 m1 d1 B2 m2 d2 B3 m3 d3 (t : Int) (k : Int) (b : Int) (wk : Int) A n c) (.slice Av t cv) rfl q1 (jb_lt _ _ _ _ _ _ _ _ _ _ _ _ _ _ _ _ _ _ (by omega)) (by kernel_rfl) rfl rfl ?_; intro z1 q1 g1 _; rw [jb_41] at q1; have q2 := q2.grown g1 (by intro e; injection e with e; omega); have o3 := OwnL.kept o2 g1 (.inr ne1); have b4 := b3.grown g1 hJw (fun r e => by cases e; exact Nat.le_refl _); have s4 := g1.size; have l1 := (lst_off l1 (Nat.le_refl _) g1 (fun h0 b off e => by have := (f1 h0 b off e).1; omega)).more s4; have l2 := (lst_off l2 (Nat.le_refl _) g1 (fun h0 b off e => by have := (f2 h0 b off e).1; omega)).more s4; have l3 := (lst_off l3 (Nat.le_refl _) g1 (fun h0 b off e => by have := (f3 h0 b off e).1; omega)).more s4)
                | (refine on 123 ?_; refine wpList_load_blk (w := z1) rfl 31 _ rfl J 42 rfl 31 _ q1 _ Tryd.underlying31 rfl size_job rfl ?_)
                | (refine onS 2 ?_; refine wpList_store_blk (w := z1) rfl 31 _ _ rfl gr 42 rfl 31 (jb (fun i => if i < 32 then .int .u8 0 else .int .u64 0) 0 none 0 0 none 0 0 none 0 0 0 0 0 0 none 0 0) (jb Z (k : Int) B1 m1 d1 B2 m2 d2 B3 m3 d3 (t : Int) (k : Int) (b : Int) (wk : Int) Av t cv) rfl q2 size_job rfl rfl (jb_one hZ ..) ?_; intro z2 q3 g2 _; have o4 := OwnL.kept o3 g2 (.inr ne2); have b5 := b4.grown g2 (by omega) (fun r e => by cases e; omega); have s5 := g2.size; have l1 := (lst_off l1 (Nat.le_refl _) g2 (fun h0 b off e => (f1 h0 b off e).2)).more s5; have l2 := (lst_off l2 (Nat.le_refl _) g2 (fun h0 b off e => (f2 h0 b off e).2)).more s5; have l3 := (lst_off l3 (Nat.le_refl _) g2 (fun h0 b off e => (f3 h0 b off e).2)).more s5))
              have hcv : t ≤ cv ∧ cv ≤ maxLen := by obtain ⟨A9, c9, e9, k1, k2⟩ := OwnL.form o4; injection e9 with e9 e10 e11; omega
              have hv1 : J < v1.heap.size := by omega
              refine bodyPost_ret (results_blk rfl _ _ gr 42 _ _ rfl q3 _ Tryd.underlying31 rfl size_job rfl) rfl ⟨B1, B2, B3, m1, d1, m2, d2, m3, d3, y1, y2, y3, t, k, b, wk, Av, cv, xs, rfl, l1, l2, l3, OwnL.lst o4 hxw, ⟨fun h0 b off e => by have := (f1 h0 b off e).1; rw [HJ.out]; omega, fun h0 b off e => by have := (f2 h0 b off e).1; rw [HJ.out]; omega, fun h0 b off e => by have := (f3 h0 b off e).1; rw [HJ.out]; omega, fun h0 b off e => by subst e; have := (OwnL.lt o4 b rfl).1; rw [HJ.out]; omega, hcv.1, hcv.2⟩, hC, hR, hr64, hk2, hb3, hw3, HJ.out ▸ b5⟩
end Go.Proofs.YtlinmcgmkpkpaaaDoor.Pi
