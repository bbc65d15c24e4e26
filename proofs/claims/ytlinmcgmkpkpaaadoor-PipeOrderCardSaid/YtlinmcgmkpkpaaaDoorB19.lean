/-
  Package pipe's Run by its contract, where nothing is refused: it tells each key, by rising keys, with its values folded in the order in which they came, and finished.
  Package dominoplay's Right: whatever job comes in, one comes out that may be: small public numbers, a program that may be, as many pairs as records.
  Package pipe's Run by its contract, told as the document tells a job: by rising keys, each with its values folded in the order in which they came, and finished.
  What stands behind the stages, plainly: as many blocks as there are, each of as many records; behind the first rounds sorted, the last one dead; behind the last ones what is alive stands first.
  The same of package pipe's Run, and how long at most what it tells is.
  What the program that adds makes of pairs in whatever order, plainly.
  A struct stored, within a region that draws its order, into a list that the call owns: no program here.
  A region that draws its order and stores into what it has loaded: what hangs on no memory may be taken first, whatever waits for it.
  The functions Same and Plain of package dominohelp on pairs, by their contracts.
  The document's own answer for package bitonic: the first places of a round's pairs, and how far the second ones are, by its contract.
  What the rows' condition on math/bits' tables gives: the table of 64 numbers holds what the program's text lays.
-/
import Derived.Test.YtlinmcgmkpkpaaaDoorB18
import Derived.Test.YtlinmcgmkpkpaaaDoorB10
import Derived.Test.YtlinmcgmkpkpaaaDoorB13
import Derived.Test.YtlinmcgmkpkpaaaDoorB8
import Derived.Test.YtlinmcgmkpkpaaaDoorB2
import Derived.Deep.CutRange
import Derived.Test.YtlinmcgmkpkpaaaDoorB11
import Derived.Test.YtlinmcgmkpkpaaaDoorB6
import Derived.Test.YtlinmcgmkpkpaaaDoorB7
import Derived.Test.YtlinmcgmkpkpaaaDoorB5
import Derived.Test.YtlinmcgmkpkpaaaDoorB3
import Derived.Lib.LaidTab
import Derived.LaidMore
import Derived.Stop.Joined
import Derived.Stop.LaidErr
set_option linter.unusedVariables false
namespace Go.Proofs.YtlinmcgmkpkpaaaDoor.Pi
open Go.RowKit Go.Shelf Mem Held Go.Proofs.YtlinmcgmkpkpaaaDoor.Range Ct Rc Rs Sl Vm Sp Mg
attribute [local go_sem] Oper.semAt_some
attribute [local irreducible] wpList wpListIn Calls
theorem info_kP : (Tryd.prog.info? 39).map (fun i => (i.zero, i.size, i.bytes)) = some (some (.agg (kP.cells kP.d).toArray), kP.s, 16) := by kernel_rfl
theorem told_next {xs : List R} {j : Nat} (hj : j < xs.length) (h : (xs.getD j R0).d = false) : ((xs.take (j + 1)).filter fun r => !r.d).map (fun r => (r.k, r.v)) = ((xs.take j).filter fun r => !r.d).map (fun r => (r.k, r.v)) ++ [((xs.getD j R0).k, (xs.getD j R0).v)] := by
  rw [← Sp.filter_snoc hj h, List.map_append]; rfl
theorem told_skip {xs : List R} {j : Nat} (hj : j < xs.length) (h : (xs.getD j R0).d = true) : ((xs.take (j + 1)).filter fun r => !r.d).map (fun r => (r.k, r.v)) = ((xs.take j).filter fun r => !r.d).map (fun r => (r.k, r.v)) := by
  rw [Sp.filter_skip hj h]
theorem told_le (xs : List R) (j : Nat) : (((xs.take j).filter fun r => !r.d).map (fun r => (r.k, r.v))).length ≤ j := by
  rw [List.length_map]
  exact Nat.le_trans (List.length_filter_le _ _) (by rw [List.length_take]; exact Nat.min_le_left _ _)
set_option maxRecDepth 100000 in
set_option maxHeartbeats 8000000 in
theorem run_ok (B k b S T : Nat) (wk : Int) (A1 A2 A3 A : Option Addr) (n1 c1 n2 c2 n3 c3 n c : Nat) (m f fi : List O) (ps : List (Int × Int)) (w : World)
    (h1 : Lst kO w B A1 n1 m) (h2 : Lst kO w B A2 n2 f) (h3 : Lst kO w B A3 n3 fi) (hp : Lst kP w B A n ps) (hB : B ≤ w.heap.size) (hC : checkB (k : Int) m f fi = true) (hR : rightB (n : Int) (k : Int) (b : Int) wk = true) (hM : allI (n : Int) (k : Int) (b : Int) = ((2 ^ S : Nat) : Int)) (hS : S ≤ 5) (hTS : Bi.tri S = T) (hL : n * k < 2 ^ S * b) (hT : Bi.TzT w) :
    Calls Tryd.prog 9 #[.agg #[.int .i64 (k : Int), .slice A1 n1 c1, .slice A2 n2 c2, .slice A3 n3 c3], .agg #[.int .i64 (n : Int), .int .i64 (k : Int), .int .i64 (b : Int), .int .i64 wk], .slice A n c] w fun e w' => ∃ v, e = .returned (.tuple #[v, .int .i64 0]) ∧ OwnL kP 39 w' w.heap.size v (tellP (stgB (k : Int) m f fi ps b (2 ^ S) T (2 + 2 * T))) ∧ (∀ x ∈ tellP (stgB (k : Int) m f fi ps b (2 ^ S) T (2 + 2 * T)), pwf x) ∧ Below w.heap.size w w' := by
  have hlen := hp.1
  obtain ⟨⟨_, hn64⟩, _, ⟨hb1, hb8⟩, _, _⟩ := right_says hR
  have hstg : Bi.stg (allI (n : Int) (k : Int) (b : Int)) = S := by rw [hM, ← Bi.two_nat]; exact Bi.stg_pow (by omega)
  have HLA := Lib.hid (fun (X : World) (hT : Bi.TzT X) => last_ok (n : Int) (k : Int) (b : Int) wk T X hR hT (by rw [hstg, hTS]))
  have HSG := Lib.hid (fun (X : World) (h1 : Lst kO X B A1 n1 m) (h2 : Lst kO X B A2 n2 f) (h3 : Lst kO X B A3 n3 fi) (hp : Lst kP X B A n ps) (hB : B ≤ X.heap.size) (hT : Bi.TzT X) => stage_ok B k b S T (2 + 2 * T) wk A1 A2 A3 A n1 c1 n2 c2 n3 c3 n c m f fi ps X h1 h2 h3 hp hB hC hR hM hS hTS hL hT (Nat.le_refl _))
  have hLe : ps.length * k ≤ 2 ^ S * b := by rw [hlen]; omega
  have hME := mapB_even (B := b) (S := S) hC hLe
  have hMW := mapB_wf (K := k) (f := f) (e := fi) (B := b) (S := S) hC hLe h1.2.1 hp.2.1 (by rw [hlen]; omega)
  have hMN : (mapB (k : Int) m f fi ps b (2 ^ S)).length = 2 ^ S := mapB_length
  have hBE := behB_even (S := S) hME hMN (Nat.le_refl (Bi.tri S))
  have hBW := behB_wf (seq := true) (S := S) hMW hMN (Nat.le_refl (Bi.tri S))
  have hBN : (behB true (2 ^ S) (mapB (k : Int) m f fi ps b (2 ^ S)) (Bi.tri S)).length = 2 ^ S := by rw [behB_length, hMN]
  have hFE := foldC_even (foldV (k : Int) m f fi) (finishV (k : Int) m f fi) RD (behB true (2 ^ S) (mapB (k : Int) m f fi ps b (2 ^ S)) (Bi.tri S)) (fun x hx => (hBE x hx).1)
  have hFW := outs_wfs (F := foldV (k : Int) m f fi) (G := finishV (k : Int) m f fi) (fun a v ha hv => Sp.foldV_wf (K := (k : Int)) (m := m) (e := fi) h2.2.1 a v ha hv) (fun a v ha hv => Sp.finishV_wf (K := (k : Int)) (m := m) (f := f) h3.2.1 a v ha hv) hBW
  have hFN : (foldC (foldV (k : Int) m f fi) (finishV (k : Int) m f fi) RD (behB true (2 ^ S) (mapB (k : Int) m f fi ps b (2 ^ S)) (Bi.tri S))).length = 2 ^ S := by rw [foldC_length, hBN]
  have hZE := behB_even (S := S) hFE hFN (Nat.le_refl (Bi.tri S))
  have hZW := behB_wf (seq := false) (S := S) hFW hFN (Nat.le_refl (Bi.tri S))
  have hZN : (behB false (2 ^ S) (foldC (foldV (k : Int) m f fi) (finishV (k : Int) m f fi) RD (behB true (2 ^ S) (mapB (k : Int) m f fi ps b (2 ^ S)) (Bi.tri S))) (Bi.tri S)).length = 2 ^ S := by rw [behB_length, hFN]
  have hst : stgB (k : Int) m f fi ps b (2 ^ S) T (2 + 2 * T) = behB false (2 ^ S) (foldC (foldV (k : Int) m f fi) (finishV (k : Int) m f fi) RD (behB true (2 ^ S) (mapB (k : Int) m f fi ps b (2 ^ S)) (Bi.tri S))) (Bi.tri S) := by
    rw [stgB, if_neg (by omega), if_neg (by omega), show 2 + 2 * T - 2 - T = T by omega, hTS]
  rw [← hst] at hZE hZW hZN
  have hM32 : 2 ^ S ≤ 32 := Nat.pow_le_pow_right (n := 2) (i := S) (by omega) hS
  have hM1 : 1 ≤ 2 ^ S := Nat.two_pow_pos _
  generalize stgB (k : Int) m f fi ps b (2 ^ S) T (2 + 2 * T) = bs at *
  have HZ := Lib.hid (fun x hx => (hZE x hx).1)
  have HZW := Lib.hid hZW
  have HZN := Lib.hid hZN
  have HTW := Lib.hid (show ∀ x ∈ tellP bs, pwf x from fun x hx => by
    obtain ⟨r, hr, rfl⟩ := List.mem_map.1 hx
    have := wf_iff.1 hZW r (List.mem_filter.1 hr).1
    exact ⟨this.1, this.2.1⟩)
  have HFL := Lib.hid (show bs.flatten.length = 2 ^ S * b by
    have := flat_len HZ.out bs.length (Nat.le_refl _)
    rwa [List.take_of_length_le (Nat.le_refl _), hZN] at this)
  have hT136 : T ≤ 136 := by rw [← hTS]; exact Bi.tri_le (by omega)
  have hTw := hT.lt
  have HTE := Lib.hid (show tellP bs = ((bs.flatten.take bs.flatten.length).filter fun r => !r.d).map fun r => (r.k, r.v) by rw [List.take_length]; rfl)
  generalize tellP bs = told at *
  generalize 2 ^ S = M at *
  clear hC hR hM hS hTS hL hstg hLe hME hMW hMN hBE hBW hBN hFE hFW hFN hZE hZW hZN hst hlen hn64
  go_enter Tryd.func9, Tryd.ntmps9
  go_wp2_with (first
    | (refine wpList_box_blk (w := w) rfl 26 _ rfl #[.int .i64 (k : Int), .slice A1 n1 c1, .slice A2 n2 c2, .slice A3 n3 c3] rfl ?_; intro u1 qa g1 z1)
    | (refine wpList_box_blk (w := u1) rfl 28 _ rfl #[.int .i64 (n : Int), .int .i64 (k : Int), .int .i64 (b : Int), .int .i64 wk] rfl ?_; intro u2 qb g2 z2; have qa := qa.grown g2 (by simp)))
  have b2 : Below w.heap.size w u2 := ((Below.refl _ w).grown g1 (Nat.le_refl _) (by simp)).grown g2 g1.size (by simp)
  have hT2 := hT.below b2 hTw
  clear g1 g2 z1 z2
  generalize u1.heap.size = b4 at *
  refine wp_region_held (S := fun X => Below u2.heap.size u2 X) (by kernel_rfl) ?_
  change wpAnyH _ _ _ _ _ _ _ _ u2.drew
  have c0_0 := (Below.refl u2.heap.size u2).drew
  refine Held.tk (v := .agg #[.int .i64 (k : Int), .slice A1 n1 c1, .slice A2 n2 c2, .slice A3 n3 c3]) 0 (some 14) rfl (Held.y_load_blk (n := 4) rfl rfl Tryd.underlying26 rfl info_prog rfl (fun X hX => qa.after hX)) c0_0 ?_
  simp only [Act.put, Z1, Z2, Z3]
  refine Held.tk (v := .agg #[.int .i64 (n : Int), .int .i64 (k : Int), .int .i64 (b : Int), .int .i64 wk]) 1 (some 15) rfl (Held.y_load_blk (n := 4) rfl rfl Tryd.underlying28 rfl size_params rfl (fun X hX => qb.after hX)) c0_0 ?_
  simp only [Act.put, Z1, Z2, Z3]
  refine Held.tk (v := .slice A n c) 2 (some 16) rfl (Held.y_move rfl rfl) c0_0 ?_
  simp only [Act.put, Z1, Z2, Z3]
  refine Held.tk (v := .agg #[.int .i64 (n : Int), .int .i64 (k : Int), .int .i64 (b : Int), .int .i64 wk]) 3 (some 17) rfl (Held.y_load_blk (n := 4) rfl rfl Tryd.underlying28 rfl size_params rfl (fun X hX => qb.after hX)) c0_0 ?_
  simp only [Act.put, Z1, Z2, Z3]
  refine Held.one 4 (by kernel_rfl) ?_
  refine Held.op_call 4 (some 18) 20 #[.agg #[.int .i64 (n : Int), .int .i64 (k : Int), .int .i64 (b : Int), .int .i64 wk]] rfl rfl rfl rfl (enters_of Tryd.func20 (by kernel_rfl) rfl) (by simp [Act.eval])
    (HLA.out u2.drew (hT2.below c0_0 hT2.lt)) ?_
  rintro e u3 ⟨rfl, d3⟩
  have c0_1 := c0_0.trans (d3.mono c0_0.size)
  have b3 := b2.trans (c0_1.mono b2.size)
  refine ⟨_, rfl, c0_1, ?_⟩
  simp only [Act.put, Z1, Z2, Z3]
  refine Held.one 5 (by kernel_rfl) ?_
  refine Held.op_call 5 (some 19) 15 #[.agg #[.int .i64 (k : Int), .slice A1 n1 c1, .slice A2 n2 c2, .slice A3 n3 c3], .agg #[.int .i64 (n : Int), .int .i64 (k : Int), .int .i64 (b : Int), .int .i64 wk], .slice A n c, .int .i64 ((2 + 2 * T : Nat) : Int)] rfl rfl rfl rfl (enters_of Tryd.func15 (by kernel_rfl) rfl) (by simp [Act.eval])
    (HSG.out u3 (h1.below (b3.mono hB)) (h2.below (b3.mono hB)) (h3.below (b3.mono hB)) (hp.below (b3.mono hB)) (Nat.le_trans hB b3.size) (hT.below b3 hTw)) ?_
  rintro e u4 ⟨V, rfl, hG, d4⟩
  have c0_2 := c0_1.trans (d4.mono c0_1.size)
  refine ⟨_, rfl, c0_2, ?_⟩
  simp only [Act.put, Z1, Z2, Z3]
  refine Held.tk (v := .tuple #[V, .int .i64 0]) 6 (some 13) rfl (Held.y_move rfl rfl) c0_2 ?_
  simp only [Act.put, Z1, Z2, Z3]
  refine Held.tk (v := V) 7 (some 20) rfl (Held.y_extract rfl rfl rfl) c0_2 ?_
  simp only [Act.put, Z1, Z2, Z3]
  refine Held.tk (v := .int .i64 0) 8 (some 21) rfl (Held.y_extract rfl rfl rfl) c0_2 ?_
  simp only [Act.put, Z1, Z2, Z3]
  refine Held.tk (v := V) 9 (some 8) rfl (Held.y_assign rfl rfl) c0_2 ?_
  simp only [Act.put, Z1, Z2, Z3]
  refine Held.tk (v := .int .i64 0) 10 (some 9) rfl (Held.y_assign rfl rfl) c0_2 ?_
  simp only [Act.put, Z1, Z2, Z3]
  refine wpAnyH_done (by kernel_rfl) ?_ _
  have b4w := b2.trans (c0_2.mono b2.size)
  have hG := hG.less b3.size
  obtain ⟨A5, n5, c5, rfl, hn5⟩ := hG.form
  obtain rfl : M = n5 := HZN.out.symm.trans hn5.out
  have HCC := Lib.hid (concat_grid w.heap.size b A5 M c5 bs u4 hG HZ.out (by omega) hM1 hM32 HZW.out)
  clear c0_0 c0_1 c0_2 d3 d4 b2 b3 hT2 hG qa qb hn5 HLA HSG
  go_wp2_with fail
  refine HCC.out.mono ?_
  rintro e u5 ⟨v, rfl, o5, d5⟩
  have b5 := b4w.trans (d5.mono b4w.size)
  have HXW := Lib.hid (wf_iff.1 HZW.out)
  have hMb : M * b ≤ 32 * 8 := Nat.mul_le_mul hM32 (by omega)
  generalize bs.flatten = xs at *
  obtain ⟨A6, L, c6, rfl, hL, _⟩ := OwnL.form2 o5
  have HXL := Lib.hid hL.out
  rw [HXL.out] at HTE
  have hL256 : L ≤ 256 := by have := HFL.out; have := HXL.out; omega
  have l5 := OwnL.lst o5 HXW.out
  have h45 := d5.size
  clear d5 o5 HCC b4w hL
  obtain ⟨ub, hub⟩ : ∃ ub, ub = u5 := ⟨_, rfl⟩
  go_wp2_with fail
  go_loopw [10, 28] (fun va iv wr => ∃ i : Nat, i ≤ L ∧ iv = .int .i64 i ∧ OwnL kP 39 wr w.heap.size va (((xs.take i).filter fun r => !r.d).map fun r => (r.k, r.v)) ∧ Lst kRec wr u5.heap.size A6 L xs ∧ Below w.heap.size w wr ∧ u5.heap.size ≤ wr.heap.size ∧ (∀ q, va.ownBlock = some q → u5.heap.size ≤ q)) (fun _ i _ => L - (intOf i).toNat)
  case atStart => exact ⟨0, by omega, rfl, OwnL.nil _ _ _ _, l5, b5, Nat.le_refl _, fun q hq => by cases hq⟩
  case round =>
    clear l5 b5
    obtain ⟨i, hi, rfl, ho, lx, hst, hsz, hq⟩ := hrel
    by_cases hlt : i < L
    · have hlt' : (i : Int) < (L : Int) := by omega
      obtain ⟨bq, off, rfl, hbq, hx⟩ := lx.at_ hlt
      have hwf := lx.wf_at hlt
      have hix : i < xs.length := by rw [HXL.out]; exact hlt
      have HN1 := Lib.hid (fun h => told_next hix h)
      have HN2 := Lib.hid (fun h => told_skip hix h)
      have HLE := Lib.hid (told_le xs i)
      have hwf : (xs.getD i R0).wf := hwf
      have hx : wr.rangeAt bq (off + i * 4) (xs.getD i R0).cells := hx
      generalize xs.getD i R0 = x at hx hwf HN1 HN2
      obtain ⟨xd, xk, xv, xs_⟩ := x
      have hx : wr.rangeAt bq (off + i * 4) [.bool xd, .int .i64 xk, .int .i64 xv, .int .i64 xs_] := hx
      obtain ⟨hw1, hw2, _⟩ := hwf
      have hw1 : (Lit.int .i64 xk).wf = true := hw1
      have hw2 : (Lit.int .i64 xv).wf = true := hw2
      generalize (((xs.take i).filter fun r => !r.d).map fun r => (r.k, r.v)) = ts at ho HN1 HN2 HLE
      cases xd with
      | true =>
        have HS := Lib.hid (HN2.out rfl)
        clear HN1 HN2
        go_wp2_with (first
          | (refine wpList_run (w := wr) rfl (v := .pointer (some ⟨bq, off + i * 4, none⟩)) (Held.y_addr (S := fun _ => True) rfl rfl rfl (run_addr_of (P := Tryd.prog) 48 51 bq off L c6 i 4 .i64 Tryd.underlying48 size_rec7 hlt) _ trivial) ?_)
          | (refine wpList_run (w := wr) rfl (v := .agg #[.bool true, .int .i64 xk, .int .i64 xv, .int .i64 xs_]) (y_load_range (S := fun W => W = wr) (n := 4) (cs := [.bool true, .int .i64 xk, .int .i64 xv, .int .i64 xs_]) rfl rfl Tryd.underlying51 rfl size_rec7 rfl (fun W hW => by rw [hW]; exact hx) _ rfl) ?_)
          | (refine wpList_alloc_blk (w := wr) rfl 51 rfl _ zero_rec ?_; intro w2 q2 g2 z2)
          | (refine wpList_store_blk (w := w2) rfl 51 _ _ rfl wr.heap.size 4 rfl 51 _ #[.bool true, .int .i64 xk, .int .i64 xv, .int .i64 xs_] rfl q2 info_rec rfl rfl (by kernel_rfl) ?_; intro w3 q3 g3 z3; have k0 := q3.cell (i := 0) rfl)
          | (refine wpList_run (w := w3) rfl (v := .pointer (some ⟨wr.heap.size, 0, none⟩)) (Held.y_field (S := fun _ => True) (k := 0) (s := 0) rfl rfl Tryd.underlying51 rfl (by kernel_rfl) rfl _ trivial) ?_))
        have b3 : Below wr.heap.size wr w3 := ((Below.refl _ wr).grown g2 (Nat.le_refl _) (by simp)).grown g3 g2.size (fun r e => by cases e; exact Nat.le_refl _)
        have ho3 := OwnL.below ho b3
        rw [← HS.out] at ho3
        go_roundw
        case rel => exact ⟨i + 1, by omega, by go_num, ho3, lx.below (b3.mono hsz), hst.trans (b3.mono hst.size), Nat.le_trans hsz b3.size, hq⟩
        case measure => simp [intOf]; omega
      | false =>
        have HS := Lib.hid (HN1.out rfl)
        clear HN1 HN2
        go_wp2_with (first
          | (refine wpList_run (w := wr) rfl (v := .pointer (some ⟨bq, off + i * 4, none⟩)) (Held.y_addr (S := fun _ => True) rfl rfl rfl (run_addr_of (P := Tryd.prog) 48 51 bq off L c6 i 4 .i64 Tryd.underlying48 size_rec7 hlt) _ trivial) ?_)
          | (refine wpList_run (w := wr) rfl (v := .agg #[.bool false, .int .i64 xk, .int .i64 xv, .int .i64 xs_]) (y_load_range (S := fun W => W = wr) (n := 4) (cs := [.bool false, .int .i64 xk, .int .i64 xv, .int .i64 xs_]) rfl rfl Tryd.underlying51 rfl size_rec7 rfl (fun W hW => by rw [hW]; exact hx) _ rfl) ?_)
          | (refine wpList_alloc_blk (w := wr) rfl 51 rfl _ zero_rec ?_; intro w2 q2 g2 z2)
          | (refine wpList_store_blk (w := w2) rfl 51 _ _ rfl wr.heap.size 4 rfl 51 _ #[.bool false, .int .i64 xk, .int .i64 xv, .int .i64 xs_] rfl q2 info_rec rfl rfl (by kernel_rfl) ?_; intro w3 q3 g3 z3; have k0 := q3.cell (i := 0) rfl; have k1 := q3.cell (i := 1) rfl; have k2 := q3.cell (i := 2) rfl; have b3 : Below wr.heap.size wr w3 := ((Below.refl _ wr).grown g2 (Nat.le_refl _) (by simp)).grown g3 g2.size (fun r e => by cases e; exact Nat.le_refl _); have ho3 := OwnL.below ho b3)
          | (refine wpList_run (w := w3) rfl (v := .pointer (some ⟨wr.heap.size, 0, none⟩)) (Held.y_field (S := fun _ => True) (k := 0) (s := 0) rfl rfl Tryd.underlying51 rfl (by kernel_rfl) rfl _ trivial) ?_)
          | (refine wpList_run (w := w3) rfl (v := .pointer (some ⟨wr.heap.size, 1, none⟩)) (Held.y_field (S := fun _ => True) (k := 1) (s := 0) rfl rfl Tryd.underlying51 rfl (by kernel_rfl) rfl _ trivial) ?_)
          | (refine wpList_run (w := w3) rfl (v := .pointer (some ⟨wr.heap.size, 2, none⟩)) (Held.y_field (S := fun _ => True) (k := 2) (s := 0) rfl rfl Tryd.underlying51 rfl (by kernel_rfl) rfl _ trivial) ?_)
          | (refine wpList_build_blk rfl 39 _ rfl #[.int .i64 xk, .int .i64 xv] (by kernel_rfl) ?_)
          | (refine wpList_build_lst (k := kP) (w := w3) rfl 29 39 1 _ rfl Tryd.underlying29 _ 16 info_kP rfl [(xk, xv)] rfl (by kernel_rfl) (by omega) (by decide) ?_; intro w4 q4 g4 z4; have l4 : Lst kP w4 w4.heap.size (some ⟨w3.heap.size, 0, none⟩) 1 [(xk, xv)] := lst_whole q4 rfl (fun y hy => by rw [List.mem_singleton.1 hy]; exact ⟨hw1, hw2⟩); have ho4 := own_new ho3 g4 (fun r e => by cases e); have b4' : Below wr.heap.size wr w4 := b3.grown g4 b3.size (by simp))
          | (at_builtin; refine wpList_append_all (k := kP) (w := w4) rfl _ _ 29 39 rfl Tryd.underlying29 _ 16 info_kP rfl w.heap.size w4.heap.size 1 1 (some ⟨w3.heap.size, 0, none⟩) u10 ts [(xk, xv)] rfl rfl ho4 l4 (by have := HLE.out; omega) (by omega) (Nat.le_trans hst.size b4'.size) ?_; intro v5 w5 o5 g5 m5))
        rw [← HS.out] at o5
        have s4 := b4'.size
        have b5 : Below w.heap.size w w5 := (hst.trans (b4'.mono hst.size)).grown g5 (Nat.le_trans hst.size s4) (fun r e => (OwnL.lt ho4 r e).1)
        have lx5 := (lx.below (b4'.mono hsz)).below ((Below.refl u5.heap.size w4).grown g5 (Nat.le_trans hsz s4) hq)
        go_roundw
        case rel => exact ⟨i + 1, by omega, by go_num, o5, lx5, b5, Nat.le_trans hsz (Nat.le_trans s4 g5.size), fun q e => by
          rcases m5 with m5 | m5
          · exact hq q (m5 ▸ e)
          · have e2 := m5.symm.trans e; injection e2 with e2; omega⟩
        case measure => simp [intOf]; omega
    · obtain rfl : i = L := by omega
      go_wp2_with fail
      go_ret2
      rw [← HTE.out] at ho
      exact ⟨_, rfl, ho, HTW.out, hst⟩
end Go.Proofs.YtlinmcgmkpkpaaaDoor.Pi
namespace Go.Proofs.YtlinmcgmkpkpaaaDoor.Pi
open Go.RowKit Go.Shelf Mem Held Ct Rc Rs Sl Vm Sp Mg
attribute [local go_sem] Oper.semAt_some
attribute [local irreducible] wpList wpListIn Calls
section
variable {P : Program} {ops : Array Oper} {Q : Exit → Act → World → Prop} {rest : List Oper} {a : Act} {w : World} {op : Op} {t : TypeId} {p : String} {af : Array Edge} {g : Option (Nat × Bool)}
theorem on (n : Tmp) (h : wpList P ops Q ({ dst := some n, op := op, type := t, pos := p, after := af, guard := g } :: rest) a w) : wpList P ops Q ({ dst := some n, op := op, type := t, pos := p, after := af, guard := g } :: rest) a w := h
theorem onS (n : Tmp) {ty : TypeId} {y : Operand} (h : wpList P ops Q ({ dst := none, op := .store ty (.tmp n) y, type := t, pos := p, after := af, guard := g } :: rest) a w) : wpList P ops Q ({ dst := none, op := .store ty (.tmp n) y, type := t, pos := p, after := af, guard := g } :: rest) a w := h
end
section
variable (Z : Nat → Value) (K : Int) (A1 : Option Addr) (n1 c1 : Nat) (A2 : Option Addr) (n2 c2 : Nat) (A3 : Option Addr) (n3 c3 : Nat) (r k b wk : Int) (A : Option Addr) (n c : Nat) (x : Int)
end
theorem small (x : Int) (m : Nat) (M : Int) (hMm : M = (m : Int)) (hm : 0 < m) (h6 : m ≤ 6) : ∃ (N : Int) (a : Nat) (r : Nat), IntKind.u64.wrap x = N ∧ N.tmod M = (a : Int) ∧ IntKind.i64.wrap (a : Int) = (a : Int) ∧ IntKind.i64.wrap (1 + (a : Int)) = (r : Int) ∧ 1 ≤ r ∧ r ≤ m := by
  subst hMm
  obtain ⟨N, hN⟩ : ∃ N : Int, IntKind.u64.wrap x = N := ⟨_, rfl⟩
  have hN0 : 0 ≤ N := by rw [← hN, IntKind.wrap_u64]; omega
  have h1 := Int.emod_nonneg N (show (m : Int) ≠ 0 by omega)
  have h2 := Int.emod_lt_of_pos N (show (0 : Int) < (m : Int) by omega)
  refine ⟨N, (N % (m : Int)).toNat, (N % (m : Int)).toNat + 1, hN, ?_, ?_, ?_, by omega, by omega⟩
  · rw [Int.tmod_eq_emod_of_nonneg hN0]; omega
  · rw [IntKind.wrap_i64]; omega
  · rw [IntKind.wrap_i64]; omega
def lenOf (v : Value) : Nat := match v with | .slice _ n _ => n | _ => 0
end Go.Proofs.YtlinmcgmkpkpaaaDoor.Pi
namespace Go.Proofs.YtlinmcgmkpkpaaaDoor.Pi
open Go.RowKit Go.Shelf Mem Held Ct Rc Rs Sl Vm Sp Mg
attribute [local irreducible] wpList wpListIn Calls
theorem cap_of (r k b S : Nat) (hb : 1 ≤ b) (h : (k : Int) * inI (r : Int) (b : Int) < ((2 ^ S : Nat) : Int)) : r * k < 2 ^ S * b := by
  rcases Nat.eq_zero_or_pos r with h0 | h0
  · subst h0
    have := Nat.two_pow_pos S
    rw [Nat.zero_mul]
    exact Nat.mul_pos this (by omega)
  have e : inI (r : Int) (b : Int) = (((r + b - 1) / b : Nat) : Int) := by
    unfold inI
    rw [Int.natCast_ediv]
    congr 1
    omega
  rw [e, ← Int.natCast_mul] at h
  have h : k * ((r + b - 1) / b) < 2 ^ S := by exact_mod_cast h
  have h1 := Nat.div_add_mod (r + b - 1) b
  have h2 := Nat.mod_lt (r + b - 1) (show b > 0 by omega)
  generalize (r + b - 1) / b = q at *
  have h3 : r ≤ b * q := by omega
  have h4 : r * k ≤ b * q * k := Nat.mul_le_mul_right k h3
  have h5 : b * q * k = k * q * b := by rw [Nat.mul_assoc, Nat.mul_comm, Nat.mul_comm q k]
  have h6 : k * q * b < 2 ^ S * b := Nat.mul_lt_mul_of_pos_right h (by omega)
  omega
end Go.Proofs.YtlinmcgmkpkpaaaDoor.Pi
namespace Go.Proofs.YtlinmcgmkpkpaaaDoor.Pi
open Go.RowKit Go.Shelf Mem Held Ct Rc Rs Sl Vm Sp Mg Cn
theorem stg_shape {k b S n nn : Nat} {m f fi : List O} {ps : List (Int × Int)} (hC : checkB (k : Int) m f fi = true) (hb : 0 < b) (hlen : ps.length = n) (hn : n ≤ 64) (hL : n * k < 2 ^ S * b) (hm : ∀ o ∈ m, o.wf) (hf : ∀ o ∈ f, o.wf) (hfi : ∀ o ∈ fi, o.wf) (hp : ∀ x ∈ ps, pwf x) (h1 : 1 ≤ nn) (h2 : nn ≤ 2 + 2 * Bi.tri S) :
    (∀ x ∈ stgB (k : Int) m f fi ps b (2 ^ S) (Bi.tri S) nn, x.length = b) ∧ (stgB (k : Int) m f fi ps b (2 ^ S) (Bi.tri S) nn).length = 2 ^ S ∧ Wf (stgB (k : Int) m f fi ps b (2 ^ S) (Bi.tri S) nn) ∧
    (nn = 1 + Bi.tri S → srtB true (stgB (k : Int) m f fi ps b (2 ^ S) (Bi.tri S) nn).flatten = true ∧ ∀ x, (stgB (k : Int) m f fi ps b (2 ^ S) (Bi.tri S) nn).flatten.getLast? = some x → x.d = true) ∧
    (nn = 2 + 2 * Bi.tri S → srtB false (stgB (k : Int) m f fi ps b (2 ^ S) (Bi.tri S) nn).flatten = true) := by
  have hLe : ps.length * k ≤ 2 ^ S * b := by rw [hlen]; omega
  have hME := mapB_even (B := b) (S := S) hC hLe
  have hMW := mapB_wf (K := k) (f := f) (e := fi) (B := b) (S := S) hC hLe hm hp (by rw [hlen]; omega)
  have hMN : (mapB (k : Int) m f fi ps b (2 ^ S)).length = 2 ^ S := mapB_length
  have hBE := behB_even (S := S) hME hMN (Nat.le_refl (Bi.tri S))
  have hBW := behB_wf (seq := true) (S := S) hMW hMN (Nat.le_refl (Bi.tri S))
  have hBN : (behB true (2 ^ S) (mapB (k : Int) m f fi ps b (2 ^ S)) (Bi.tri S)).length = 2 ^ S := by rw [behB_length, hMN]
  have hFE := foldC_even (foldV (k : Int) m f fi) (finishV (k : Int) m f fi) RD (behB true (2 ^ S) (mapB (k : Int) m f fi ps b (2 ^ S)) (Bi.tri S)) (fun x hx => (hBE x hx).1)
  have hFW := outs_wfs (F := foldV (k : Int) m f fi) (G := finishV (k : Int) m f fi) (fun a v ha hv => Sp.foldV_wf (K := (k : Int)) (m := m) (e := fi) hf a v ha hv) (fun a v ha hv => Sp.finishV_wf (K := (k : Int)) (m := m) (f := f) hfi a v ha hv) hBW
  have hFN : (foldC (foldV (k : Int) m f fi) (finishV (k : Int) m f fi) RD (behB true (2 ^ S) (mapB (k : Int) m f fi ps b (2 ^ S)) (Bi.tri S))).length = 2 ^ S := by rw [foldC_length, hBN]
  by_cases hc : nn ≤ 1 + Bi.tri S
  · have e : stgB (k : Int) m f fi ps b (2 ^ S) (Bi.tri S) nn = behB true (2 ^ S) (mapB (k : Int) m f fi ps b (2 ^ S)) (nn - 1) := by rw [stgB, if_neg (by omega), if_pos hc]
    rw [e]
    refine ⟨fun x hx => (behB_even (S := S) hME hMN (show nn - 1 ≤ Bi.tri S by omega) x hx).1, by rw [behB_length, hMN], behB_wf (seq := true) (S := S) hMW hMN (show nn - 1 ≤ Bi.tri S by omega), fun h => ?_, fun h => by omega⟩
    rw [show nn - 1 = Bi.tri S by omega]
    refine ⟨srtB_iff.2 (behB_sorts hb hME hMN), fun x hx => ?_⟩
    obtain ⟨A1, ds, hA, hds, h0, _⟩ := first_half (S := S) (B := b) (ps := ps) hC hb (by omega) (by rw [hlen]; exact hL)
    rw [hA, List.getLast?_append] at hx
    cases hd : ds.getLast? with
    | none => exact absurd (List.getLast?_eq_none_iff.1 hd) h0
    | some y =>
      rw [hd] at hx
      obtain rfl : y = x := by simpa using hx
      exact hds _ (List.mem_of_getLast? hd)
  · have e : stgB (k : Int) m f fi ps b (2 ^ S) (Bi.tri S) nn = behB false (2 ^ S) (foldC (foldV (k : Int) m f fi) (finishV (k : Int) m f fi) RD (behB true (2 ^ S) (mapB (k : Int) m f fi ps b (2 ^ S)) (Bi.tri S))) (nn - 2 - Bi.tri S) := by rw [stgB, if_neg (by omega), if_neg hc]
    rw [e]
    have hr : nn - 2 - Bi.tri S ≤ Bi.tri S := by omega
    refine ⟨fun x hx => (behB_even (S := S) hFE hFN hr x hx).1, by rw [behB_length, hFN], behB_wf (seq := false) (S := S) hFW hFN hr, fun h => by omega, fun h => ?_⟩
    rw [show nn - 2 - Bi.tri S = Bi.tri S by omega]
    exact srtB_iff.2 (behB_sorts hb hFE hFN)
end Go.Proofs.YtlinmcgmkpkpaaaDoor.Pi
namespace Go.Proofs.YtlinmcgmkpkpaaaDoor.Pi
open Go.RowKit Go.Shelf Mem Held Ct Rc Rs Sl Vm Sp Mg
attribute [local irreducible] wpList wpListIn Calls
set_option maxHeartbeats 4000000 in
theorem run_told2 (B k b n : Nat) (wk : Int) (A1 A2 A3 A : Option Addr) (n1 c1 n2 c2 n3 c3 c : Nat) (m f fi : List O) (ps : List (Int × Int)) (w : World)
    (h1 : Lst kO w B A1 n1 m) (h2 : Lst kO w B A2 n2 f) (h3 : Lst kO w B A3 n3 fi) (hp : Lst kP w B A n ps) (hB : B ≤ w.heap.size) (hC : checkB (k : Int) m f fi = true) (hR : rightB (n : Int) (k : Int) (b : Int) wk = true) (hT : Bi.TzT w) :
    Calls Tryd.prog 9 #[.agg #[.int .i64 (k : Int), .slice A1 n1 c1, .slice A2 n2 c2, .slice A3 n3 c3], .agg #[.int .i64 (n : Int), .int .i64 (k : Int), .int .i64 (b : Int), .int .i64 wk], .slice A n c] w fun e w' => ∃ v X, e = .returned (.tuple #[v, .int .i64 0]) ∧ OwnL kP 39 w' w.heap.size v (X.map fun p => (p.1, finishV (k : Int) m f fi p.1 p.2)) ∧
      (∀ x ∈ X.map fun p => (p.1, finishV (k : Int) m f fi p.1 p.2), pwf x) ∧ IsTold (foldV (k : Int) m f fi) (Sp.live (k : Int) m f fi ps) X ∧ X.length ≤ 256 ∧ Below w.heap.size w w' := by
  obtain ⟨S, hS1, hS5, hM, hS, hk⟩ := all_says hR
  obtain ⟨⟨_, hn⟩, _, ⟨hb1, hb8⟩, _, _⟩ := right_says hR
  have hL := cap_of n k b S (by omega) hk
  obtain ⟨X, hX, hX2⟩ := pipe_told (ps := ps) (m := m) (f := f) (e := fi) (K := k) (B := b) (S := S) hC (by omega) (by rw [hp.1]; omega) (by rw [hp.1]; exact hL)
  have hlen : X.length ≤ 256 := by
    obtain ⟨hz, hbl, _⟩ := stg_shape (nn := 2 + 2 * Bi.tri S) hC (by omega) hp.1 (by omega) hL h1.2.1 h2.2.1 h3.2.1 hp.2.1 (by omega) (Nat.le_refl _)
    have e := flat_len hz _ (Nat.le_refl _)
    rw [List.take_length, hbl] at e
    have l1 := List.length_filter_le (fun r : R => !r.d) (stgB (k : Int) m f fi ps b (2 ^ S) (Bi.tri S) (2 + 2 * Bi.tri S)).flatten
    have l2 : (tellP (stgB (k : Int) m f fi ps b (2 ^ S) (Bi.tri S) (2 + 2 * Bi.tri S))).length = X.length := by rw [hX2, List.length_map]
    rw [tellP, List.length_map] at l2
    have hM32 : 2 ^ S ≤ 32 := Nat.pow_le_pow_right (n := 2) (i := S) (by omega) hS5
    have h8 : 2 ^ S * b ≤ 32 * 8 := Nat.mul_le_mul hM32 (by omega)
    omega
  refine (run_ok B k b S (Bi.tri S) wk A1 A2 A3 A n1 c1 n2 c2 n3 c3 n c m f fi ps w h1 h2 h3 hp hB hC hR hM hS5 rfl hL hT).mono ?_
  rintro e w' ⟨v, rfl, o1, w1, b1⟩
  rw [hX2] at o1 w1
  exact ⟨v, X, rfl, o1, w1, hX, hlen, b1⟩
end Go.Proofs.YtlinmcgmkpkpaaaDoor.Pi
namespace Go.Proofs.YtlinmcgmkpkpaaaDoor.Pi
open Go.RowKit Go.Shelf Mem Rc Rs Sl Vm Sp
theorem sum1_check : checkB ((1 : Nat) : Int) (sumM 1) [OA] [] = true := sum_check 1 (by omega) (by omega)
theorem sum1_fold (a v : Int) : foldV ((1 : Nat) : Int) (sumM 1) [OA] [] a v = wrap64 (a + v) := by
  unfold foldV
  rw [if_pos sum1_check]
  rfl
theorem sum1_finish (k v : Int) : finishV ((1 : Nat) : Int) (sumM 1) [OA] [] k v = v := by
  unfold finishV
  rw [if_pos sum1_check]
  rfl
theorem sum1_map (i key v : Int) : mapR ((1 : Nat) : Int) (sumM 1) [OA] [] i key v = [⟨false, key, v, wrap64 (wrap64 (i * ((1 : Nat) : Int)) + 0)⟩] := by
  unfold mapR
  rw [if_pos sum1_check]
  rfl
theorem sum1_valsTo (ps : List (Int × Int)) (c : Int) : ∀ n, n ≤ ps.length → valsOf (Sp.liveTo ((1 : Nat) : Int) (sumM 1) [OA] [] ps n) c = ((ps.take n).filter fun p => decide (p.1 = c)).map (·.2)
  | 0, _ => rfl
  | n + 1, h => by
    rw [Sp.liveTo_snoc]
    have e : Sp.liveAt ((1 : Nat) : Int) (sumM 1) [OA] [] ps n = [⟨false, (ps.getD n (0, 0)).1, (ps.getD n (0, 0)).2, wrap64 (wrap64 ((n : Int) * ((1 : Nat) : Int)) + 0)⟩] := by
      unfold Sp.liveAt
      rw [sum1_map]
      rfl
    rw [e]
    have ih := sum1_valsTo ps c n (by omega)
    have ht : ps.take (n + 1) = ps.take n ++ [ps.getD n (0, 0)] := by
      rw [List.take_add_one, List.getD_eq_getElem?_getD, List.getElem?_eq_getElem (by omega)]
      rfl
    unfold valsOf at ih ⊢
    rw [List.filter_append, List.map_append, ih, ht, List.filter_append, List.map_append]
    congr 1
    generalize ps.getD n (0, 0) = p
    by_cases hc : p.1 = c <;> simp [List.filter, hc]
theorem sum1_vals (ps : List (Int × Int)) (c : Int) : valsOf (Sp.live ((1 : Nat) : Int) (sumM 1) [OA] [] ps) c = (ps.filter fun p => decide (p.1 = c)).map (·.2) := by
  have := sum1_valsTo ps c ps.length (Nat.le_refl _)
  rwa [List.take_length] at this
theorem wrap_wf {v : Int} (h : (Lit.int .i64 v).wf = true) : wrap64 v = v := by
  simp [Lit.wf, IntKind.min, IntKind.max, IntKind.signed, IntKind.bits] at h
  rw [← w64, IntKind.wrap_i64]
  omega
theorem wrap_add (a v : Int) : wrap64 (wrap64 a + v) = wrap64 (a + v) := by
  rw [← w64, ← w64, ← w64, IntKind.wrap_i64, IntKind.wrap_i64, IntKind.wrap_i64]
  omega
theorem fold_sum {F : Int → Int → Int} (hF : ∀ a v, F a v = wrap64 (a + v)) : ∀ (l : List Int) (a : Int), wrap64 a = a → l.foldl F a = wrap64 (a + l.sum)
  | [], a, h => by simp [h]
  | v :: l, a, h => by
    rw [List.foldl_cons, hF, fold_sum hF l _ (by have := wrap_add (a + v) 0; simpa using this), List.sum_cons, wrap_add, Int.add_assoc]
theorem val_sum {F : Int → Int → Int} (hF : ∀ a v, F a v = wrap64 (a + v)) : ∀ l : List Int, (∀ v ∈ l, wrap64 v = v) → val F l = if l = [] then none else some (wrap64 l.sum)
  | [], _ => rfl
  | v :: l, h => by
    rw [val, fold_sum hF l v (h v (List.mem_cons_self ..)), if_neg (by simp), List.sum_cons]
theorem sum_perm' {l m : List Int} (h : l.Perm m) : l.sum = m.sum := by
  induction h with
  | nil => rfl
  | cons x _ ih => rw [List.sum_cons, List.sum_cons, ih]
  | swap x y l => simp only [List.sum_cons]; omega
  | trans _ _ h1 h2 => exact h1.trans h2
theorem set_perm {α : Type} (d : α) : ∀ (l : List α) (i : Nat) (y : α), i < l.length → (l.getD i d :: l.set i y).Perm (y :: l)
  | x :: l, 0, y, _ => by
    show (x :: y :: l).Perm (y :: x :: l)
    exact List.Perm.swap ..
  | x :: l, i + 1, y, h => by
    have ih := set_perm d l i y (by simpa using h)
    show (l.getD i d :: x :: l.set i y).Perm (y :: x :: l)
    exact (List.Perm.swap ..).trans ((ih.cons x).trans (List.Perm.swap ..))
theorem swap_perm {α : Type} (d : α) (l : List α) (i k : Nat) (hi : i < l.length) (hk : k < l.length) : ((l.set i (l.getD k d)).set k (l.getD i d)).Perm l := by
  have h1 := set_perm d l i (l.getD k d) hi
  have h2 := set_perm d (l.set i (l.getD k d)) k (l.getD i d) (by rw [List.length_set]; exact hk)
  have e : (l.set i (l.getD k d)).getD k d = l.getD k d := by
    by_cases hik : i = k
    · subst hik
      rw [List.getD_eq_getElem?_getD, List.getElem?_set_self hi]
      rfl
    · rw [List.getD_eq_getElem?_getD, List.getElem?_set_ne hik, List.getD_eq_getElem?_getD]
  rw [e] at h2
  exact (h2.trans h1).cons_inv
theorem told_perm {ps qs : List (Int × Int)} (h : ps.Perm qs) (hw : ∀ x ∈ ps, pwf x) {X : List (Int × Int)} (hX : IsTold (foldV ((1 : Nat) : Int) (sumM 1) [OA] []) (Sp.live ((1 : Nat) : Int) (sumM 1) [OA] [] ps) X) : IsTold (foldV ((1 : Nat) : Int) (sumM 1) [OA] []) (Sp.live ((1 : Nat) : Int) (sumM 1) [OA] [] qs) X := by
  refine ⟨hX.rise, fun p => ?_⟩
  rw [hX.mem p, sum1_vals, sum1_vals]
  have hp : ((ps.filter fun q => decide (q.1 = p.1)).map (·.2)).Perm ((qs.filter fun q => decide (q.1 = p.1)).map (·.2)) := (h.filter _).map _
  have hv : ∀ v ∈ (ps.filter fun q => decide (q.1 = p.1)).map (·.2), wrap64 v = v := fun v hv => by
    obtain ⟨x, hx, rfl⟩ := List.mem_map.1 hv
    exact wrap_wf (hw x (List.mem_filter.1 hx).1).2
  rw [val_sum sum1_fold _ hv, val_sum sum1_fold _ (fun v h2 => hv v (hp.mem_iff.2 h2)), sum_perm' hp]
  have e : ((ps.filter fun q => decide (q.1 = p.1)).map (·.2) = []) = ((qs.filter fun q => decide (q.1 = p.1)).map (·.2) = []) := by
    rw [← List.length_eq_zero_iff, ← List.length_eq_zero_iff, hp.length_eq]
  simp only [e]
end Go.Proofs.YtlinmcgmkpkpaaaDoor.Pi
namespace Go.Proofs.YtlinmcgmkpkpaaaDoor.Sl
open Go.RowKit Go.Shelf Go.Proofs.YtlinmcgmkpkpaaaDoor Mem Held
section
variable {α : Type} {k : St α}
theorem own_set {e : TypeId} {w : World} {base g n cap i : Nat} {xs : List α} (f : α) (hown : OwnL k e w base (.slice (some ⟨g, 0, none⟩) n cap) xs) (hi : i < xs.length) :
    w.there g (i * k.s) (k.cells f).toArray.size ∧ OwnL k e (w.setCells g (i * k.s) (k.cells f)) base (.slice (some ⟨g, 0, none⟩) n cap) (xs.set i f) := by
  rcases hown.2 with ⟨e', _⟩ | ⟨g', cap', cur, e', hb, hg, hnc, hcm, hcs, ht⟩
  · cases e'
  · injection e' with e1 e2 e3
    injection e1 with e1
    injection e1 with e1
    subst e1
    subst e3
    have hle : (i + 1) * k.s ≤ cap * k.s := Nat.mul_le_mul_right _ (by omega)
    have hle2 : (i + 1) * k.s ≤ xs.length * k.s := Nat.mul_le_mul_right _ (by omega)
    rw [Nat.add_mul, Nat.one_mul] at hle hle2
    have hth : w.there g (i * k.s) (k.cells f).toArray.size := fun j hj => by
      have hj' : j < k.s := by rw [List.size_toArray, k.len] at hj; exact hj
      refine ⟨?_, by simp [World.frozen?, hg]⟩
      rw [cell_of_row w g _ _ _ (0, 0) hg, Array.getElem?_eq_getElem (by omega)]
      rfl
    obtain ⟨cur', h1, h2, h3⟩ := heap_setCells (k.cells f) (i * k.s) w cur hg (by rw [k.len]; omega)
    refine ⟨hth, ?_⟩
    refine ⟨flat_length k _, .inr ⟨g, cap, cur', by rw [List.length_set]; exact congrArg (fun n => Value.slice (some ⟨g, 0, none⟩) n cap) e2, hb, h1, by rw [List.length_set]; exact hnc, hcm, by rw [h2, hcs], ?_⟩⟩
    rw [List.length_set, h3, flat_set xs i f hi, ← ht, k.len]
    have hcl : cur.toList.length = cap * k.s := by simpa using hcs
    have hl : xs.length * k.s ≤ cur.toList.length := by rw [hcl]; exact Nat.mul_le_mul_right _ hnc
    apply List.ext_getElem?
    intro j
    have hc0 : (k.cells f).length = k.s := k.len f
    have ha : (cur.toList.take (i * k.s)).length = i * k.s := by rw [List.length_take]; omega
    have ha2 : ((cur.toList.take (xs.length * k.s)).take (i * k.s)).length = i * k.s := by rw [List.length_take, List.length_take]; omega
    rw [List.getElem?_take]
    simp only [List.append_assoc, List.getElem?_append, ha, ha2, hc0, List.getElem?_take, List.getElem?_drop]
    by_cases hj : j < xs.length * k.s
    · rw [if_pos hj]
      by_cases h4 : j < i * k.s
      · rw [if_pos h4, if_pos h4, if_pos h4, if_pos h4, if_pos hj]
      · rw [if_neg h4, if_neg h4]
        by_cases h5 : j - i * k.s < k.s
        · rw [if_pos h5, if_pos h5]
        · rw [if_neg h5, if_neg h5, if_pos (by omega)]
    · rw [if_neg hj, if_neg (by omega), if_neg (by omega), if_neg (by omega)]
theorem op_store_ownL {P : Program} {ops : Array Oper} {Q : Exit → Act → World → Prop} {o : Oper} {a : Act} {w : World} (i : Nat) (d : Option Tmp) {K : Act → World → Prop} (ty : TypeId) {x y : Operand} (base g n cap off j : Nat) (xs : List α) (f : α) (hi : ops[i]? = some o) (hd : o.dst = d) (hw : Region.wanted o (yielded ops a.tmps) = true)
    (ho : o.op = .store ty x y) (hoff : off = j * k.s) (hx : a.eval x = .pointer (some ⟨g, off, none⟩)) (hy : a.eval y = .agg (k.cells f).toArray) (hown : OwnL k ty w base (.slice (some ⟨g, 0, none⟩) n cap) xs) (hj : j < xs.length) (hsz : (P.info? ty).map (·.size) = some k.s)
    (h : ∀ w', OwnL k ty w' base (.slice (some ⟨g, 0, none⟩) n cap) (xs.set j f) → w.grownBy w' (some g) → K (a.put d undef) w') : wpOp P ops Q i K a w := by
  subst hd
  subst hoff
  refine op_wp i hi hw ?_
  obtain ⟨h1, h2⟩ := own_set f hown hj
  exact wp_store_mid ty x y ho g (j * k.s) (k.cells f).toArray hx hy h1 (by rw [hsz, List.size_toArray, k.len]) (all_oneCell_toArray (k.one f)) (h _ h2 (grown_setCells _ _ _ _))
end
end Go.Proofs.YtlinmcgmkpkpaaaDoor.Sl
namespace Go.Proofs.YtlinmcgmkpkpaaaDoor.Held
open Go.RowKit
section
variable {P : Program} {ops : Array Oper} {Q : Exit → Act → World → Prop} {md : Region.Mode} {T : World → Prop} {s : Nat}
theorem wpAnyB_alone {i : Nat} {oi : Oper} {v : Value} (hi : ops[i]? = some oi) (hsel : ∀ (j : Nat) (o : Oper) cs b, ops[j]? = some o → o.op ≠ .select cs b)
    (hQ : ∀ c a w, Q (.panic c) (a.put oi.dst v) w → Q (.panic c) a w) (hs : i ≠ s) :
    ∀ (fuel : Nat) {listed : Array Bool} {a : Act} {w : World}, Early md ops [] i oi listed → YieldsIf P ops (fun _ => True) oi v a → (listed.getD s true = false → T w) →
      wpAnyB P md ops Q T s fuel (listed.setIfInBounds i true) (a.put oi.dst v) w → wpAnyB P md ops Q T s (fuel + 1) listed a w
  | fuel, listed, a, w, h, hy, hT, H => by
    refine ⟨fun h0 => absurd (h0 ▸ h.ready) (by simp), fun j hj => ?_⟩
    by_cases hji : j = i
    · refine hji ▸ hy.wpOp hi trivial ⟨fun e => hT (by rwa [getD_set_ne true hs] at e), H⟩
    · match fuel, H with
      | 0, H => exact absurd (H.1 ▸ ready_mono hj hji) (by simp)
      | fuel + 1, H =>
        obtain ⟨hun, oj, ho, _⟩ := mem_ready.1 hj
        have step := wpOp_putIf ho (h.free j oj ho hji hun (h.waits hj ho)) (fun cs b => hsel i oi cs b hi) (fun cs b => hsel j oj cs b ho) hQ hy (H.2 j (ready_mono hj hji))
        have n := h.next ⟨by simp, fun b hb => by cases hb⟩ hj hji
        refine wpOp_mono (fun a' w' k => ?_) step
        obtain ⟨k1, k2, k3⟩ := k
        rw [Array.setIfInBounds_comm _ _ (Ne.symm hji)] at k2 k3
        have hT' : (listed.setIfInBounds j true).getD s true = false → T w' := fun e => k2 (by rw [getD_set_ne true hs]; exact e)
        exact ⟨hT', wpAnyB_alone hi hsel hQ hs fuel n k1 hT' k3⟩
theorem takeA (i : Nat) (d : Option Tmp) {oi : Oper} {v : Value} {fuel : Nat} {listed : Array Bool} {a : Act} {w : World} (hi : ops[i]? = some oi) (hd : oi.dst = d)
    (hs : Region.noSelect ops = true) (hf : Region.free md ops listed i = true) (hr : (Region.ready md ops listed).contains i = true) (hne : i ≠ s)
    (hQ : ∀ c a w, Q (.panic c) (a.put d v) w → Q (.panic c) a w) (hw : Region.wanted oi (yielded ops a.tmps) = true) (hy : ∀ w, True → (execOp a.eval oi).run P w = .ok (.value v) w) (hT : listed.getD s true = false → T w)
    (h : wpAnyB P md ops Q T s fuel (listed.setIfInBounds i true) (a.put d v) w) : wpAnyB P md ops Q T s (fuel + 1) listed a w := by
  subst hd
  exact wpAnyB_alone hi (Region.noSelect_spec hs) hQ hne fuel ⟨by simpa using hr, Region.free_spec hi hf, fun b hb => by cases hb⟩ (.inl ⟨hw, hy⟩) hT h
end
end Go.Proofs.YtlinmcgmkpkpaaaDoor.Held
namespace Go.Proofs.YtlinmcgmkpkpaaaDoor.Pip
open Go.RowKit Go.Shelf Go.Proofs.YtlinmcgmkpkpaaaDoor Mem Held Rc Rs Sl Vm Sp
attribute [local irreducible] wpList wpListIn Calls
theorem key_pair (w : World) (a b c d : Int) : (Op.equalIn 10000 39 (.agg #[.int .i64 a, .int .i64 b]) (.agg #[.int .i64 c, .int .i64 d])).run Tryd.prog w = .ok (decide (a = c ∧ b = d)) w := by
  have hu : Tryd.prog.underlying 39 = some (.struct (Tryd.prog.fieldsOf 39)) := by kernel_rfl
  have hp : Tryd.prog.stoodInHeld 39 = false := by kernel_rfl
  have ei : ∀ (d : Nat) (k : IntKind) (x y : Int), (Op.equalIn (d + 1) 2 (.int k x) (.int k y)).run Tryd.prog w = .ok (x == y) w := fun d k x y => run_equalIn_int w d 2 k .i64 x y Tryd.underlying2
  rw [show (10000 : Nat) = 9998 + 1 + 1 from rfl, run_equalIn_agg w (9998 + 1) _ _ _ hu hp]
  simp only [Program.fieldsOf, Tryd.underlying39, Op.eqFields, Go.part, isAgg, Sem.run_bind, run_underlying Tryd.underlying2, Result.andThen_ok, Sem.run_pure, Sem.run_ite]
  simp [ei]
  by_cases h0 : a = c <;> by_cases h1 : b = d <;> simp [h0, h1]
section
variable {S : World → Prop} {ρ : Operand → Value} {o : Oper}
theorem y_eqp {ty : TypeId} {x y : Operand} {a b c d : Int} {r : Bool} (ho : o.op = .binOp .eql 39 x y ty) (hx : ρ x = .agg #[.int .i64 a, .int .i64 b]) (hy : ρ y = .agg #[.int .i64 c, .int .i64 d])
    (hr : decide (a = c ∧ b = d) = r) : ∀ w, S w → (execOp ρ o).run Tryd.prog w = .ok (.value (.bool r)) w :=
  Held.y_bin ho hx hy (fun w => by simp [eqGuard, show Tryd.prog.eqGuardType Tryd.prog.depth 39 = false by kernel_rfl]) (fun w => by rw [← hr, run_eql_struct, key_pair]; rfl)
end
theorem eqp_any (a b : Int × Int) (w : World) : Calls Tryd.prog 27 #[.agg #[.int .i64 a.1, .int .i64 a.2], .agg #[.int .i64 b.1, .int .i64 b.2]] w fun e w' => e = .returned (.bool (decide (a = b))) ∧ Below w.heap.size w w' := by
  have HR := Lib.hid (show decide (a.1 = b.1 ∧ a.2 = b.2) = decide (a = b) from decide_eq_decide.2 Prod.ext_iff.symm)
  go_enter Tryd.func27, Tryd.ntmps27
  go_wp2_with (first
    | (refine wpList_box_blk (w := w) rfl 39 _ rfl _ rfl ?_; intro w1 q1 g1 z1)
    | (refine wpList_box_blk (w := w1) rfl 39 _ rfl _ rfl ?_; intro w2 q2 g2 z2; have q1 := q1.grown g2 (by simp))
    | (refine wpList_load_blk (w := w2) rfl 39 _ rfl w.heap.size 2 rfl 39 _ q1 _ Tryd.underlying39 rfl (by kernel_rfl) rfl ?_)
    | (refine wpList_load_blk (w := w2) rfl 39 _ rfl w1.heap.size 2 rfl 39 _ q2 _ Tryd.underlying39 rfl (by kernel_rfl) rfl ?_)
    | (refine wpList_run rfl (v := .bool (decide (a = b))) (y_eqp (S := fun _ => True) rfl rfl rfl HR.out _ trivial) ?_))
  go_ret
  exact ⟨rfl, ((Below.refl _ w).grown g1 (Nat.le_refl _) (by simp)).grown g2 g1.size (by simp)⟩
theorem take_stepP {xs ys : List (Int × Int)} {k : Nat} (hx : k < xs.length) (hy : k < ys.length) (h : xs.take k = ys.take k) (e : xs.getD k (0, 0) = ys.getD k (0, 0)) : xs.take (k + 1) = ys.take (k + 1) := by
  rw [List.take_add_one, List.take_add_one, h]
  simp only [List.getD_eq_getElem?_getD, List.getElem?_eq_getElem hx, List.getElem?_eq_getElem hy, Option.getD_some] at e
  rw [List.getElem?_eq_getElem hx, List.getElem?_eq_getElem hy, e]
set_option maxRecDepth 100000 in
set_option maxHeartbeats 4000000 in
theorem same_any (B B' : Nat) (A A' : Option Addr) (n n' c c' : Nat) (rs rs' : List (Int × Int)) (w : World) (h : Lst kP w B A n rs) (h' : Lst kP w B' A' n' rs') (hB : B ≤ w.heap.size) (hB' : B' ≤ w.heap.size) (hn : n ≤ 1073741824) (hn' : n' ≤ 1073741824) :
    Calls Tryd.prog 26 #[.slice A n c, .slice A' n' c', .func (.func 27) #[] #[]] w fun e w' => e = .returned (.bool (decide (rs = rs'))) ∧ Below w.heap.size w w' := by
  by_cases hnn : n = n'
  · subst hnn
    have hne : ((n : Int) != (n : Int)) = false := by simp
    have HL := Lib.hid h.1
    have HL' := Lib.hid h'.1
    go_enter Tryd.func26, Tryd.ntmps26
    go_wp2_with fail
    go_loopw [7] (fun i wr => ∃ k : Nat, k ≤ n ∧ i = .int .i64 k ∧ Below w.heap.size w wr ∧ Hid (rs.take k = rs'.take k)) (fun i _ => n - (intOf i).toNat)
    case atStart => exact ⟨0, by omega, rfl, Below.refl _ _, Lib.hid rfl⟩
    case round =>
      obtain ⟨k, hk, rfl, hst, ht⟩ := hrel
      have hBk := Nat.le_trans hB hst.size
      have hBk' := Nat.le_trans hB' hst.size
      by_cases hlt : k < n
      · obtain ⟨b, off, rfl, hb, hx⟩ := (h.below (hst.mono hB)).at_ hlt
        have hx : wr.rangeAt b (off + k * 2) (pcells (rs.getD k (0, 0))) := hx
        obtain ⟨b', off', rfl, hb', hy⟩ := (h'.below (hst.mono hB')).at_ hlt
        have hy : wr.rangeAt b' (off' + k * 2) (pcells (rs'.getD k (0, 0))) := hy
        have hlt' : (k : Int) < (n : Int) := by omega
        have hk0 : (0 : Int) ≤ (k : Int) := by omega
        by_cases hq0 : rs.getD k (0, 0) = rs'.getD k (0, 0)
        · have HT := Lib.hid (take_stepP (by have := HL.out; omega) (by have := HL'.out; omega) ht.out hq0)
          have hq : decide (rs.getD k (0, 0) = rs'.getD k (0, 0)) = true := by simpa using hq0
          clear hq0
          generalize rs.getD k (0, 0) = x at hx hq
          generalize rs'.getD k (0, 0) = y at hy hq
          go_wp2_with fail
          refine wp_region_held (S := fun W => Below wr.heap.size wr W) (by kernel_rfl) ?_
          change wpAnyH _ _ _ _ _ _ _ _ wr.drew
          have c0_0 := (Below.refl wr.heap.size wr).drew
          refine Held.tk (v := .func (.func 27) #[] #[]) 0 (some 19) rfl (Held.y_move rfl rfl) c0_0 ?_
          simp only [Act.put, Z1, Z2, Z3]
          refine Held.tk (v := .slice (some ⟨b, off, none⟩) n c) 1 (some 20) rfl (Held.y_move rfl rfl) c0_0 ?_
          simp only [Act.put, Z1, Z2, Z3]
          refine Held.tk (v := .int .i64 (k : Int)) 2 (some 21) rfl (Held.y_move rfl rfl) c0_0 ?_
          simp only [Act.put, Z1, Z2, Z3]
          refine Held.tk (v := .pointer (some ⟨b, off + k * 2, none⟩)) 3 (some 22) rfl (Held.y_addr rfl rfl rfl (run_addr_of 29 39 b off n c k 2 .i64 Tryd.underlying29 (by kernel_rfl) hlt)) c0_0 ?_
          simp only [Act.put, Z1, Z2, Z3]
          refine Held.tk (v := .agg #[.int .i64 x.1, .int .i64 x.2]) 4 (some 23) rfl (y_load_range (n := 2) (cs := (pcells x)) rfl rfl Tryd.underlying39 rfl (by kernel_rfl) rfl (fun W hW => range_below hx hW (Nat.lt_of_lt_of_le hb hBk))) c0_0 ?_
          simp only [Act.put, Z1, Z2, Z3]
          refine Held.tk (v := .slice (some ⟨b', off', none⟩) n c') 5 (some 24) rfl (Held.y_move rfl rfl) c0_0 ?_
          simp only [Act.put, Z1, Z2, Z3]
          refine Held.tk (v := .int .i64 (k : Int)) 6 (some 25) rfl (Held.y_move rfl rfl) c0_0 ?_
          simp only [Act.put, Z1, Z2, Z3]
          refine Held.tk (v := .pointer (some ⟨b', off' + k * 2, none⟩)) 7 (some 26) rfl (Held.y_addr rfl rfl rfl (run_addr_of 29 39 b' off' n c' k 2 .i64 Tryd.underlying29 (by kernel_rfl) hlt)) c0_0 ?_
          simp only [Act.put, Z1, Z2, Z3]
          refine Held.tk (v := .agg #[.int .i64 y.1, .int .i64 y.2]) 8 (some 27) rfl (y_load_range (n := 2) (cs := (pcells y)) rfl rfl Tryd.underlying39 rfl (by kernel_rfl) rfl (fun W hW => range_below hy hW (Nat.lt_of_lt_of_le hb' hBk'))) c0_0 ?_
          simp only [Act.put, Z1, Z2, Z3]
          refine Held.one 9 (by kernel_rfl) ?_
          refine Rs.op_callv 9 (some 28) 27 #[] #[.agg #[.int .i64 x.1, .int .i64 x.2], .agg #[.int .i64 y.1, .int .i64 y.2]] rfl rfl rfl rfl rfl (enters_of Tryd.func27 (by kernel_rfl) rfl) (by simp [Act.eval])
            (by have := eqp_any x y wr.drew; rwa [hq] at this) ?_
          rintro e w1 ⟨rfl, b1⟩
          have c0_1 := c0_0.trans (b1.mono c0_0.size)
          refine ⟨_, rfl, c0_1, ?_⟩
          simp only [Act.put, Z1, Z2, Z3]
          refine Held.tk (v := .bool false) 10 (some 29) rfl (Held.y_not rfl rfl rfl) c0_1 ?_
          simp only [Act.put, Z1, Z2, Z3]
          refine wpAnyH_done (by kernel_rfl) ?_ _
          have dz := hst.trans (c0_1.mono hst.size)
          generalize w1 = wz at dz ⊢
          clear hx hy c0_1
          go_wp2_with fail
          go_roundw
          case rel => exact ⟨k + 1, by omega, by go_num, dz, HT⟩
          case measure => simp [intOf]; omega
        · have HF := Lib.hid (show decide (rs = rs') = false by
            rw [decide_eq_false_iff_not]; intro e; exact hq0 (by rw [e]))
          have hq : decide (rs.getD k (0, 0) = rs'.getD k (0, 0)) = false := by simpa using hq0
          clear hq0
          generalize rs.getD k (0, 0) = x at hx hq
          generalize rs'.getD k (0, 0) = y at hy hq
          go_wp2_with fail
          refine wp_region_held (S := fun W => Below wr.heap.size wr W) (by kernel_rfl) ?_
          change wpAnyH _ _ _ _ _ _ _ _ wr.drew
          have c0_0 := (Below.refl wr.heap.size wr).drew
          refine Held.tk (v := .func (.func 27) #[] #[]) 0 (some 19) rfl (Held.y_move rfl rfl) c0_0 ?_
          simp only [Act.put, Z1, Z2, Z3]
          refine Held.tk (v := .slice (some ⟨b, off, none⟩) n c) 1 (some 20) rfl (Held.y_move rfl rfl) c0_0 ?_
          simp only [Act.put, Z1, Z2, Z3]
          refine Held.tk (v := .int .i64 (k : Int)) 2 (some 21) rfl (Held.y_move rfl rfl) c0_0 ?_
          simp only [Act.put, Z1, Z2, Z3]
          refine Held.tk (v := .pointer (some ⟨b, off + k * 2, none⟩)) 3 (some 22) rfl (Held.y_addr rfl rfl rfl (run_addr_of 29 39 b off n c k 2 .i64 Tryd.underlying29 (by kernel_rfl) hlt)) c0_0 ?_
          simp only [Act.put, Z1, Z2, Z3]
          refine Held.tk (v := .agg #[.int .i64 x.1, .int .i64 x.2]) 4 (some 23) rfl (y_load_range (n := 2) (cs := (pcells x)) rfl rfl Tryd.underlying39 rfl (by kernel_rfl) rfl (fun W hW => range_below hx hW (Nat.lt_of_lt_of_le hb hBk))) c0_0 ?_
          simp only [Act.put, Z1, Z2, Z3]
          refine Held.tk (v := .slice (some ⟨b', off', none⟩) n c') 5 (some 24) rfl (Held.y_move rfl rfl) c0_0 ?_
          simp only [Act.put, Z1, Z2, Z3]
          refine Held.tk (v := .int .i64 (k : Int)) 6 (some 25) rfl (Held.y_move rfl rfl) c0_0 ?_
          simp only [Act.put, Z1, Z2, Z3]
          refine Held.tk (v := .pointer (some ⟨b', off' + k * 2, none⟩)) 7 (some 26) rfl (Held.y_addr rfl rfl rfl (run_addr_of 29 39 b' off' n c' k 2 .i64 Tryd.underlying29 (by kernel_rfl) hlt)) c0_0 ?_
          simp only [Act.put, Z1, Z2, Z3]
          refine Held.tk (v := .agg #[.int .i64 y.1, .int .i64 y.2]) 8 (some 27) rfl (y_load_range (n := 2) (cs := (pcells y)) rfl rfl Tryd.underlying39 rfl (by kernel_rfl) rfl (fun W hW => range_below hy hW (Nat.lt_of_lt_of_le hb' hBk'))) c0_0 ?_
          simp only [Act.put, Z1, Z2, Z3]
          refine Held.one 9 (by kernel_rfl) ?_
          refine Rs.op_callv 9 (some 28) 27 #[] #[.agg #[.int .i64 x.1, .int .i64 x.2], .agg #[.int .i64 y.1, .int .i64 y.2]] rfl rfl rfl rfl rfl (enters_of Tryd.func27 (by kernel_rfl) rfl) (by simp [Act.eval])
            (by have := eqp_any x y wr.drew; rwa [hq] at this) ?_
          rintro e w1 ⟨rfl, b1⟩
          have c0_1 := c0_0.trans (b1.mono c0_0.size)
          refine ⟨_, rfl, c0_1, ?_⟩
          simp only [Act.put, Z1, Z2, Z3]
          refine Held.tk (v := .bool true) 10 (some 29) rfl (Held.y_not rfl rfl rfl) c0_1 ?_
          simp only [Act.put, Z1, Z2, Z3]
          refine wpAnyH_done (by kernel_rfl) ?_ _
          have dz := hst.trans (c0_1.mono hst.size)
          generalize w1 = wz at dz ⊢
          clear hx hy c0_1
          go_wp2_with fail
          go_ret
          exact ⟨Mem.ret_bool HF.out.symm, dz⟩
      · have HF := Lib.hid (show decide (rs = rs') = true by
          have e1 := ht.out
          rw [List.take_of_length_le (by have := HL.out; omega), List.take_of_length_le (by have := HL'.out; omega)] at e1
          simpa using e1)
        go_wp2_with fail
        go_ret
        exact ⟨Mem.ret_bool HF.out.symm, hst⟩
  · have hne : ((n : Int) != (n' : Int)) = true := by simp; omega
    have HF := Lib.hid (show decide (rs = rs') = false by
      rw [decide_eq_false_iff_not]; intro e; exact hnn (by rw [← h.1, ← h'.1, e]))
    clear h h' hnn
    go_enter Tryd.func26, Tryd.ntmps26
    go_wp2_with fail
    go_ret
    exact ⟨Mem.ret_bool HF.out.symm, Below.refl _ _⟩
theorem plain_any (B B' : Nat) (A A' : Option Addr) (n n' c c' : Nat) (rs rs' : List (Int × Int)) (w : World) (h : Lst kP w B A n rs) (h' : Lst kP w B' A' n' rs') (hB : B ≤ w.heap.size) (hB' : B' ≤ w.heap.size) (hn : n ≤ 1073741824) (hn' : n' ≤ 1073741824) :
    Calls Tryd.prog 12 #[.slice A n c, .slice A' n' c'] w fun e w' => e = .returned (.bool (decide (rs = rs'))) ∧ Below w.heap.size w w' := by
  go_enter Tryd.func12, Tryd.ntmps12
  go_wp2_with fail
  refine (same_any B B' A A' n n' c c' rs rs' w h h' hB hB' hn hn').mono ?_
  rintro e w' ⟨rfl, hst⟩
  go_wp2_with fail
  go_ret
  exact ⟨rfl, hst⟩
end Go.Proofs.YtlinmcgmkpkpaaaDoor.Pip
namespace Go.Proofs.YtlinmcgmkpkpaaaDoor.Bi
open Go.RowKit Go.Shelf Go.Proofs.YtlinmcgmkpkpaaaDoor Mem Held Help Go.Proofs.YtlinmcgmkpkpaaaDoor.Range
attribute [local go_sem] Oper.semAt_some
attribute [local irreducible] wpList wpListIn Calls
end Go.Proofs.YtlinmcgmkpkpaaaDoor.Bi
namespace Go.Proofs.YtlinmcgmkpkpaaaDoor.Bi
open Go.RowKit Go.Proofs.YtlinmcgmkpkpaaaDoor Mem
set_option maxRecDepth 100000
def biLaid : List (String × DataW Unit) := [("math/bits.deBruijn32tab", Rows.laid_math_bits_deBruijn32tab), ("math/bits.deBruijn64tab", Rows.laid_math_bits_deBruijn64tab)]
theorem bits_of_laid {w : World} (h : laidMetH Tryd.prog biLaid w) : TzT w := by
  rw [MakeChecks.laidMetH_plain _ _ _ (by kernel_rfl)] at h
  have h2 : Lib.TabIs Tryd.prog w "math/bits.deBruijn64tab" .u8 tzT := Lib.tabIs_of_head (e := 5) (n := 64) (zs := tzT) (t := 145) (g := 1) (by kernel_rfl) (by kernel_rfl) Tryd.underlying145 Tryd.underlying5 (by kernel_rfl) (by kernel_rfl) (laidMet.tail h)
  exact Po.tabK_of_var (by kernel_rfl) h2
end Go.Proofs.YtlinmcgmkpkpaaaDoor.Bi
