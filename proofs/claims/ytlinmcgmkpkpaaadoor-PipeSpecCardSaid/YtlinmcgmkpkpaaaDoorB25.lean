/-
  The document's own Run, told as the document tells a job: by rising keys, each with its values folded in the order in which they came, and finished.
-/
import Derived.Test.YtlinmcgmkpkpaaaDoorB24
set_option linter.unusedVariables false
namespace Go.Proofs.YtlinmcgmkpkpaaaDoor.Pi
open Go.RowKit Go.Shelf Go.Proofs.YtlinmcgmkpkpaaaDoor Mem Held Ct Rc Rs Sl Vm Sp Mg Cn
attribute [local irreducible] wpList wpListIn Calls
theorem rec_at {t : TypeId} {w : World} {base g n cap j : Nat} {rs : List R} (h : OwnL kRec t w base (.slice (some ⟨g, 0, none⟩) n cap) rs) (hw : ∀ x ∈ rs, x.wf) (hj : j < n) : w.rangeAt g (0 + j * 4) (rs.getD j R0).cells := by
  have hl := OwnL.lst h hw
  obtain ⟨b, off, e, _, hx⟩ := Lst.at_ hl hj
  injection e with e
  injection e with e1 e2
  subst e1
  subst e2
  exact hx
theorem pair_at {t : TypeId} {w : World} {base g n cap j : Nat} {xs : List (Int × Int)} (h : OwnL kP t w base (.slice (some ⟨g, 0, none⟩) n cap) xs) (hw : ∀ x ∈ xs, pwf x) (hj : j < n) : w.rangeAt g (0 + j * 2) [.int .i64 (xs.getD j (0, 0)).1, .int .i64 (xs.getD j (0, 0)).2] := by
  have hl := OwnL.lst h hw
  obtain ⟨b, off, e, _, hx⟩ := Lst.at_ hl hj
  injection e with e
  injection e with e1 e2
  subst e1
  subst e2
  exact hx
def nOf : Value → Nat
  | .slice _ n _ => n
  | _ => 0
theorem last_getD (out : List (Int × Int)) : out.getLast?.getD (0, 0) = out.getD (out.length - 1) (0, 0) := by
  rw [List.getLast?_eq_getElem?, List.getD_eq_getElem?_getD]
theorem laterB_nil {out : List (Int × Int)} (h : out.length = 0) (r : R) : laterB out r = true := by
  rw [List.eq_nil_of_length_eq_zero h]; rfl
theorem laterB_cons {out : List (Int × Int)} (h : 0 < out.length) (r : R) : laterB out r = decide ((out.getD (out.length - 1) (0, 0)).1 < r.k) := by
  rw [laterB, last_getD]
  cases out with
  | nil => exact absurd h (by simp)
  | cons p l => rfl
def finTo (G : Int × Int → Int × Int) (X : List (Int × Int)) (i : Nat) : List (Int × Int) := (X.take i).map G ++ X.drop i
theorem finTo_length (G : Int × Int → Int × Int) (X : List (Int × Int)) (i : Nat) : (finTo G X i).length = X.length := by
  rw [finTo, List.length_append, List.length_map, List.length_take, List.length_drop]; omega
theorem finTo_getD (G : Int × Int → Int × Int) (X : List (Int × Int)) (i : Nat) (hi : i < X.length) : (finTo G X i).getD i (0, 0) = X.getD i (0, 0) := by
  rw [finTo, List.getD_eq_getElem?_getD, List.getElem?_append_right (by rw [List.length_map, List.length_take]; omega), List.length_map, List.length_take, List.getElem?_drop, List.getD_eq_getElem?_getD]
  congr 2
  omega
theorem finTo_set (G : Int × Int → Int × Int) (X : List (Int × Int)) (i : Nat) (hi : i < X.length) : (finTo G X i).set i (G (X.getD i (0, 0))) = finTo G X (i + 1) := by
  have e1 : X.drop i = X.getD i (0, 0) :: X.drop (i + 1) := by
    rw [List.drop_eq_getElem_cons hi, List.getD_eq_getElem?_getD, List.getElem?_eq_getElem hi]; rfl
  have e2 : X.take (i + 1) = X.take i ++ [X.getD i (0, 0)] := by
    rw [List.take_add_one, List.getElem?_eq_getElem hi, List.getD_eq_getElem?_getD, List.getElem?_eq_getElem hi]; rfl
  have e3 : ((X.take i).map G).length = i := by rw [List.length_map, List.length_take]; omega
  have e4 : ∀ (l1 l2 : List (Int × Int)) (x y : Int × Int), (l1 ++ x :: l2).set l1.length y = l1 ++ y :: l2 := fun l1 l2 x y => by
    induction l1 with
    | nil => rfl
    | cons z l ih => simp only [List.cons_append, List.length_cons, List.set_cons_succ, ih]
  have e5 := e4 ((X.take i).map G) (X.drop (i + 1)) (X.getD i (0, 0)) (G (X.getD i (0, 0)))
  rw [e3] at e5
  rw [finTo, finTo, e1, e5, e2, List.map_append, List.append_assoc]
  rfl
theorem finTo_all (G : Int × Int → Int × Int) (X : List (Int × Int)) (i : Nat) (hi : X.length ≤ i) : finTo G X i = X.map G := by
  rw [finTo, List.take_of_length_le hi, List.drop_of_length_le hi, List.append_nil]
theorem finTo_wf {G : Int × Int → Int × Int} {X : List (Int × Int)} (h : ∀ x ∈ X, pwf x) (hG : ∀ x, pwf x → pwf (G x)) (i : Nat) : ∀ x ∈ finTo G X i, pwf x := fun x hx => by
  rcases List.mem_append.1 hx with hx | hx
  · obtain ⟨y, hy, rfl⟩ := List.mem_map.1 hx
    exact hG y (h y (List.mem_of_mem_take hy))
  · exact h x (List.mem_of_mem_drop hx)
theorem nextOf_at (out : List (Int × Int)) {l : List R} {t : Nat} (ht : t < l.length) : nextOf out (l.take (t + 1)) = nextS1 out (nextOf out (l.take t)) (l.getD t R0) := by
  rw [List.take_add_one, List.getElem?_eq_getElem ht, List.getD_eq_getElem?_getD, List.getElem?_eq_getElem ht]
  exact nextOf_snoc _ _ _
theorem oneOf_at (F : Int → Int → Int) (c : Int) {l : List R} {t : Nat} (ht : t < l.length) : oneOf F c (l.take (t + 1)) = oneS F c (oneOf F c (l.take t)) (l.getD t R0) := by
  rw [List.take_add_one, List.getElem?_eq_getElem ht, List.getD_eq_getElem?_getD, List.getElem?_eq_getElem ht]
  exact oneOf_snoc _ _ _ _
theorem told_wf {F : Int → Int → Int} {out : List (Int × Int)} {c v : Int} (h : ∀ x ∈ out, pwf x) (hc : (Lit.int .i64 c).wf = true) (hv : (Lit.int .i64 v).wf = true) : ∀ x ∈ out ++ [(c, v)], pwf x := fun x hx => by
  rcases List.mem_append.1 hx with hx | hx
  · exact h x hx
  · rw [List.mem_singleton.1 hx]; exact ⟨hc, hv⟩
set_option maxRecDepth 100000 in
set_option maxHeartbeats 64000000 in
theorem rspec_ok (B K n : Nat) (b wk : Int) (A1 A2 A3 A : Option Addr) (n1 c1 n2 c2 n3 c3 c : Nat) (m f fi : List O) (ps : List (Int × Int)) (w : World) (h1 : Lst kO w B A1 n1 m) (h2 : Lst kO w B A2 n2 f) (h3 : Lst kO w B A3 n3 fi) (hp : Lst kP w B A n ps) (hB : B ≤ w.heap.size) (l1 : n1 ≤ 1048576) (l2 : n2 ≤ 1048576) (l3 : n3 ≤ 1048576) (hC : checkB (K : Int) m f fi = true) (hR : rightB (n : Int) (K : Int) b wk = true) :
    Calls Tryd.prog 10 #[.agg #[.int .i64 (K : Int), .slice A1 n1 c1, .slice A2 n2 c2, .slice A3 n3 c3], .agg #[.int .i64 (n : Int), .int .i64 (K : Int), .int .i64 b, .int .i64 wk], .slice A n c] w fun e w' => ∃ v X, e = .returned (.tuple #[v, .int .i64 0]) ∧ OwnL kP 39 w' w.heap.size v (X.map fun p => (p.1, finishV (K : Int) m f fi p.1 p.2)) ∧
      (∀ x ∈ X.map fun p => (p.1, finishV (K : Int) m f fi p.1 p.2), pwf x) ∧ IsTold (foldV (K : Int) m f fi) (Sp.live (K : Int) m f fi ps) X ∧ X.length ≤ 256 ∧ Below w.heap.size w w' := by
  obtain ⟨⟨hn1, hn64⟩, _⟩ := right_says hR
  obtain ⟨hK1, hK4, _⟩ := checkB_says hC
  have hn64 : n ≤ 64 := by omega
  have hpl : ps.length = n := hp.1
  have HLW := Lib.hid (live_wf (K := (K : Int)) (f := f) (e := fi) h1.2.1 hp.2.1 (by rw [hpl]; omega))
  have HLL := Lib.hid (show (Sp.live (K : Int) m f fi ps).length ≤ 256 by have := live_length (K : Int) m f fi ps; rw [hpl] at this; omega)
  have HFW := Lib.hid (fun a b ha hb => foldV_wf (K := (K : Int)) (m := m) (e := fi) h2.2.1 a b ha hb)
  have HGW := Lib.hid (fun a b ha hb => finishV_wf (K := (K : Int)) (m := m) (f := f) h3.2.1 a b ha hb)
  have HPX := Lib.hid (fun i (hi : i < n) => show (liveTo (K : Int) m f fi ps i).length ≤ 256 by
    have h5 := (liveTo_prefix (K : Int) m f fi ps (show i ≤ ps.length by omega)).length_le
    exact Nat.le_trans h5 HLL.out)
  have HRW := Lib.hid (fun num key val hn hk hv => mapR_wf (K := (K : Int)) (f := f) (e := fi) (n := num) (key := key) (val := val) h1.2.1 hn hk hv)
  go_enter Tryd.func10, Tryd.ntmps10
  go_wp2_with (first
    | (refine on 3 ?_; refine wpList_box_blk (w := w) rfl 26 _ rfl #[.int .i64 (K : Int), .slice A1 n1 c1, .slice A2 n2 c2, .slice A3 n3 c3] rfl ?_; intro w1 q1 g1 z1)
    | (refine on 4 ?_; refine wpList_box_blk (w := w1) rfl 28 _ rfl #[.int .i64 (n : Int), .int .i64 (K : Int), .int .i64 b, .int .i64 wk] rfl ?_; intro w2 q2 g2 z2; have b1 : Below w.heap.size w w1 := (Below.refl _ w).grown g1 (Nat.le_refl _) (by simp); have s1 : w.heap.size < w1.heap.size := q1.lt; have b2 := b1.grown g2 b1.size (by simp); have q1 := q1.grown g2 (by simp); have s2 : w1.heap.size < w2.heap.size := q2.lt; clear g1 g2 z1 z2)
    | (refine on 22 ?_; refine wpList_load_blk (w := w2) rfl 26 _ rfl w.heap.size 4 rfl 26 _ q1 _ Tryd.underlying26 rfl info_prog rfl ?_)
    | (refine on 23 ?_; refine wpList_load_blk (w := w2) rfl 28 _ rfl w1.heap.size 4 rfl 28 _ q2 _ Tryd.underlying28 rfl size_params rfl ?_))
  refine (rmay_ok B K n b wk A1 A2 A3 A n1 c1 n2 c2 n3 c3 c m f fi w2 (h1.below (b2.mono hB)) (h2.below (b2.mono hB)) (h3.below (b2.mono hB)) (Nat.le_trans hB b2.size) l1 l2 l3 hC hR).mono ?_
  rintro e w3 ⟨rfl, b3⟩
  have q1 := q1.after b3
  have s3 : w.heap.size < w3.heap.size := q1.lt
  have b3 := b2.trans (b3.mono b2.size)
  clear b2 b1 q2 s1 s2 hR
  go_wp2_with fail
  go_loopw [9, 10] (fun av iv wr => ∃ (i : Nat) (Av : Option Addr) (nv cv : Nat), i ≤ n ∧ iv = .int .i64 i ∧ av = .slice Av nv cv ∧ OwnL kRec 51 wr w3.heap.size (.slice Av nv cv) (liveTo (K : Int) m f fi ps i) ∧ Below w3.heap.size w3 wr) (fun _ t _ => n - (intOf t).toNat)
  case atStart => exact ⟨0, none, 0, 0, by omega, rfl, rfl, OwnL.nil _ _ _ _, Below.refl _ _⟩
  case round =>
    obtain ⟨i, Av, nv, cv, hi, rfl, rfl, o, bw⟩ := hrel
    have q1 := q1.after bw
    have sw := bw.size
    have b4 := b3.trans (bw.mono (Nat.le_of_lt s3))
    by_cases hlt : i < n
    · have hlt' : (i : Int) < (n : Int) := by omega
      obtain ⟨bp, off, rfl, hbp, hx⟩ := (hp.below (b4.mono hB)).at_ hlt
      obtain ⟨hxk, hxv⟩ := hp.wf_at hlt
      have hx : wr.rangeAt bp (off + i * 2) [.int .i64 (ps.getD i (0, 0)).1, .int .i64 (ps.getD i (0, 0)).2] := hx
      have hxk : (Lit.int .i64 (ps.getD i (0, 0)).1).wf = true := hxk
      have hxv : (Lit.int .i64 (ps.getD i (0, 0)).2).wf = true := hxv
      have HMR : ∀ rs, mapR (K : Int) m f fi i (ps.getD i (0, 0)).1 (ps.getD i (0, 0)).2 = rs → Hid (mapR (K : Int) m f fi i (ps.getD i (0, 0)).1 (ps.getD i (0, 0)).2 = rs) := fun rs h => Lib.hid h
      have hsn := liveTo_snoc (K : Int) m f fi ps i
      rw [liveAt] at hsn
      have hln := HPX.out i hlt
      generalize (ps.getD i (0, 0)).1 = key at *
      generalize (ps.getD i (0, 0)).2 = val at *
      generalize liveTo (K : Int) m f fi ps i = pre at *
      have hl1 := h1.below (b4.mono hB)
      have hl2 := h2.below (b4.mono hB)
      have hl3 := h3.below (b4.mono hB)
      go_wp2_with fail
      refine wp_region_held (S := fun W => Below wr.heap.size wr W) (by kernel_rfl) ?_
      change wpAnyH _ _ _ _ _ _ _ _ wr.drew
      have c0 := (Below.refl wr.heap.size wr).drew
      refine Held.tk (v := .agg #[.int .i64 (K : Int), .slice A1 n1 c1, .slice A2 n2 c2, .slice A3 n3 c3]) 0 (some 35) rfl (Held.y_load_blk (n := 4) rfl rfl Tryd.underlying26 rfl info_prog rfl (fun W hW => q1.after hW)) c0 ?_
      simp only [Act.put, Z1, Z2, Z3]
      refine Held.tk (v := .int .i64 (i : Int)) 1 (some 36) rfl (Held.y_move rfl rfl) c0 ?_
      simp only [Act.put, Z1, Z2, Z3]
      refine Held.tk (v := .slice (some ⟨bp, off, none⟩) n c) 2 (some 37) rfl (Held.y_move rfl rfl) c0 ?_
      simp only [Act.put, Z1, Z2, Z3]
      refine Held.tk (v := .int .i64 (i : Int)) 3 (some 38) rfl (Held.y_move rfl rfl) c0 ?_
      simp only [Act.put, Z1, Z2, Z3]
      refine Held.tk (v := .pointer (some ⟨bp, off + i * 2, none⟩)) 4 (some 39) rfl (Held.y_addr rfl rfl rfl (Rs.run_addr_of (P := Tryd.prog) 29 39 bp off n c i 2 .i64 Tryd.underlying29 (by kernel_rfl) hlt)) c0 ?_
      simp only [Act.put, Z1, Z2, Z3]
      refine Held.tk (v := .agg #[.int .i64 key, .int .i64 val]) 5 (some 40) rfl (Rs.y_load_range (n := 2) (cs := [.int .i64 key, .int .i64 val]) rfl rfl Tryd.underlying39 rfl (by kernel_rfl) rfl (fun X hX => range_below hx hX (by have := b4.size; omega))) c0 ?_
      simp only [Act.put, Z1, Z2, Z3]
      refine Held.one 6 (by kernel_rfl) ?_
      refine Held.op_call 6 (some 41) 23 #[.agg #[.int .i64 (K : Int), .slice A1 n1 c1, .slice A2 n2 c2, .slice A3 n3 c3], .int .i64 (i : Int), .agg #[.int .i64 key, .int .i64 val]] rfl rfl rfl rfl (enters_of Tryd.func23 (by kernel_rfl) rfl) (by simp [Act.eval])
        (rmap_ok B K A1 A2 A3 n1 c1 n2 c2 n3 c3 m f fi (i : Int) key val _ (nat_wf (by omega)) hxk hxv (hl1.below (c0.mono (Nat.le_trans hB b4.size))) (hl2.below (c0.mono (Nat.le_trans hB b4.size))) (hl3.below (c0.mono (Nat.le_trans hB b4.size))) (Nat.le_trans (Nat.le_trans hB b4.size) c0.size) l1 l2 l3 hC) ?_
      rintro e w5 ⟨Ar, nr, cr, rfl, ors, f1⟩
      have c1 := c0.trans (f1.mono c0.size)
      refine ⟨_, rfl, c1, ?_⟩
      simp only [Act.put, Z1, Z2, Z3]
      refine Held.tk (v := .slice Ar nr cr) 7 (some 11) rfl (Held.y_assign rfl rfl) c1 ?_
      simp only [Act.put, Z1, Z2, Z3]
      refine wpAnyH_done (by kernel_rfl) ?_ _
      have hrw := HRW.out (i : Int) key val (nat_wf (by omega)) hxk hxv
      obtain ⟨rs, hrs⟩ : ∃ rs, mapR (K : Int) m f fi (i : Int) key val = rs := ⟨_, rfl⟩
      have hr4 := mapR_length (K : Int) m f fi (i : Int) key val
      rw [hrs] at ors hrw hr4 hsn
      have hrl : rs.length = nr := by obtain ⟨_, _, e, _⟩ := OwnL.form ors; injection e with _ e2; exact e2.symm
      have o5 := OwnL.below o c1
      have q1 := q1.after c1
      have b5 := bw.trans (c1.mono sw)
      have s5 := b5.size
      have hlo := OwnL.lt o
      have ors := OwnL.less ors (Nat.le_refl wr.heap.size)
      have hlr := OwnL.lt ors
      have hd5 := c1.size
      have hne5 : ∀ g, (Value.slice Av nv cv).ownBlock = some g → (Value.slice Ar nr cr).ownBlock ≠ some g := fun g e1 e2 => by have := (hlo g e1).2; have := (hlr g e2).1; omega
      have HSN := Lib.hid hsn
      clear hsn hlo o f1 c0 c1 hx hl1 hl2 hl3 HMR hrs bw
      go_wp2_with fail
      go_loopw [9, 12] (fun av jv W => ∃ (j : Nat) (Aw : Option Addr) (nw cw : Nat), j ≤ nr ∧ jv = .int .i64 j ∧ av = .slice Aw nw cw ∧ OwnL kRec 51 W w3.heap.size (.slice Aw nw cw) (pre ++ (rs.take j).filter (fun r => !r.d)) ∧ OwnL kRec 51 W wr.heap.size (.slice Ar nr cr) rs ∧ (∀ g, (Value.slice Aw nw cw).ownBlock = some g → (Value.slice Ar nr cr).ownBlock ≠ some g) ∧ Below w3.heap.size w3 W ∧ w5.heap.size ≤ W.heap.size) (fun _ t _ => nr - (intOf t).toNat)
      case atStart => exact ⟨0, Av, nv, cv, by omega, rfl, rfl, by simpa using o5, ors, hne5, b5, Nat.le_refl _⟩
      case round =>
        clear o5 ors hne5 b5
        obtain ⟨j, Aw, nw, cw, hj, rfl, rfl, o, ors, hne, bw, sW⟩ := hrel
        by_cases hjl : j < nr
        · have hjl' : (j : Int) < (nr : Int) := by omega
          obtain ⟨gr, rfl, _, _, _⟩ := own_at0 ors (by omega)
          have hx := rec_at ors hrw hjl
          have hxw := hrw (rs.getD j R0) (by rw [List.getD_eq_getElem?_getD, List.getElem?_eq_getElem (by omega)]; exact List.getElem_mem _)
          have HSK := Lib.hid (fun h => filter_skip (rs := rs) (j := j) (by omega) h)
          have HSC := Lib.hid (fun h => filter_snoc (rs := rs) (j := j) (by omega) h)
          have hfl := List.length_filter_le (fun r : R => !r.d) (rs.take j)
          rw [List.length_take] at hfl
          generalize rs.getD j R0 = x at hx hxw HSK HSC
          obtain ⟨xd, xk, xv, xs⟩ := x
          dsimp only at HSK HSC
          have hx : wr.rangeAt gr (0 + j * 4) [.bool xd, .int .i64 xk, .int .i64 xv, .int .i64 xs] := hx
          generalize (rs.take j).filter (fun r => !r.d) = fl at *
          cases xd with
          | true =>
            go_wp2_with (first
              | (refine on 50 ?_; refine wpList_run (w := wr) rfl (v := .pointer (some ⟨gr, 0 + j * 4, none⟩)) (Held.y_addr (S := fun _ => True) rfl rfl rfl (Rs.run_addr_of (P := Tryd.prog) 48 51 gr 0 nr cr j 4 .i64 Tryd.underlying48 (by kernel_rfl) hjl) _ trivial) ?_)
              | (refine on 51 ?_; refine wpList_run (w := wr) rfl (v := .pointer (some ⟨gr, 0 + j * 4 + 0, none⟩)) (Held.y_field (S := fun _ => True) (k := 0) (s := 0) rfl rfl Tryd.underlying51 rfl (by kernel_rfl) rfl _ trivial) ?_)
              | (refine on 52 ?_; refine wpList_run (w := wr) rfl (v := .bool true) (Held.y_load (S := fun W => W = wr) rfl rfl (by kernel_rfl) (fun W hW => by rw [hW]; exact hx 0 _ rfl) _ rfl) ?_))
            go_roundw
            case rel => exact ⟨j + 1, Aw, nw, cw, by omega, by go_num, rfl, by rw [HSK.out rfl]; exact o, ors, hne, bw, sW⟩
            case measure => simp [intOf]; omega
          | false =>
            have hnw : pre.length + fl.length = nw := by obtain ⟨_, _, e, _⟩ := OwnL.form o; injection e with _ e2; rw [e2, List.length_append]
            have hw3 := bw.size
            go_wp2_with (first
              | (refine on 50 ?_; refine wpList_run (w := wr) rfl (v := .pointer (some ⟨gr, 0 + j * 4, none⟩)) (Held.y_addr (S := fun _ => True) rfl rfl rfl (Rs.run_addr_of (P := Tryd.prog) 48 51 gr 0 nr cr j 4 .i64 Tryd.underlying48 (by kernel_rfl) hjl) _ trivial) ?_)
              | (refine on 51 ?_; refine wpList_run (w := wr) rfl (v := .pointer (some ⟨gr, 0 + j * 4 + 0, none⟩)) (Held.y_field (S := fun _ => True) (k := 0) (s := 0) rfl rfl Tryd.underlying51 rfl (by kernel_rfl) rfl _ trivial) ?_)
              | (refine on 52 ?_; refine wpList_run (w := wr) rfl (v := .bool false) (Held.y_load (S := fun W => W = wr) rfl rfl (by kernel_rfl) (fun W hW => by rw [hW]; exact hx 0 _ rfl) _ rfl) ?_)
              | (refine on 57 ?_; refine wpList_run (w := wr) rfl (v := .pointer (some ⟨gr, 0 + j * 4, none⟩)) (Held.y_addr (S := fun _ => True) rfl rfl rfl (Rs.run_addr_of (P := Tryd.prog) 48 51 gr 0 nr cr j 4 .i64 Tryd.underlying48 (by kernel_rfl) hjl) _ trivial) ?_)
              | (refine on 58 ?_; refine wpList_run (w := wr) rfl (v := .agg #[.bool false, .int .i64 xk, .int .i64 xv, .int .i64 xs]) (Rs.y_load_range (S := fun W => W = wr) (n := 4) (cs := [.bool false, .int .i64 xk, .int .i64 xv, .int .i64 xs]) rfl rfl Tryd.underlying51 rfl (by kernel_rfl) rfl (fun W hW => by rw [hW]; exact hx) _ rfl) ?_)
              | (refine on 59 ?_; refine wpList_build_lst (k := kRec) (w := wr) rfl 48 51 1 _ rfl Tryd.underlying48 _ 32 info_kRec rfl [⟨false, xk, xv, xs⟩] rfl (by kernel_rfl) (by omega) (by decide) ?_; intro w6 q6 g6 z6; have b6 := (Below.refl wr.heap.size wr).grown g6 (Nat.le_refl _) (by simp); have o6 := OwnL.below o b6; have or6 := OwnL.below ors b6; have b6 := bw.trans (b6.mono hw3); have l6 : Lst kRec w6 w6.heap.size (some ⟨wr.heap.size, 0, none⟩) 1 [⟨false, xk, xv, xs⟩] := lst_whole q6 rfl (fun x hx => by rw [List.mem_singleton.1 hx]; exact hxw))
              | (refine on 60 ?_; refine wpList_append_all (k := kRec) (w := w6) rfl _ _ 48 51 rfl Tryd.underlying48 _ 32 info_kRec rfl w3.heap.size w6.heap.size 1 1 (some ⟨wr.heap.size, 0, none⟩) (.slice Aw nw cw) (pre ++ fl) [⟨false, xk, xv, xs⟩] rfl rfl o6 l6 (by rw [List.length_append]; omega) (by omega) (Nat.le_trans hw3 g6.size) ?_; intro V w7 o7 g7 me7; obtain ⟨A7, n7, c7, rfl, hn7, _⟩ := OwnL.form2 o7; have b7 := b6.grown g7 b6.size (fun r e => (OwnL.lt o6 r e).1); have or7 := OwnL.kept or6 g7 (.inr (fun e => hne gr (show (Value.slice Aw nw cw).ownBlock = some gr from e.symm) rfl))))
            have hgr6 := (OwnL.lt ors gr rfl).2
            have hs6 := g6.size
            have hs7 := g7.size
            have hne7 : ∀ g, (Value.slice A7 n7 c7).ownBlock = some g → (Value.slice (some ⟨gr, 0, none⟩) nr cr).ownBlock ≠ some g := fun g e1 e2 => by
              have e2 : some gr = some g := e2
              injection e2 with e2
              subst e2
              rcases me7 with me7 | me7
              · exact hne gr (me7.symm.trans e1) rfl
              · rw [me7] at e1
                injection e1 with e1
                omega
            rw [List.append_assoc, HSC.out rfl] at o7
            clear o6 or6 o ors g6 g7 q6 z6 l6 me7 hn7
            go_roundw
            case rel => exact ⟨j + 1, A7, n7, c7, by omega, by go_num, rfl, o7, or7, hne7, b7, by omega⟩
            case measure => simp [intOf]; omega
        · obtain rfl : j = nr := by omega
          rw [List.take_of_length_le (by omega), ← HSN.out] at o
          clear ors hne
          go_wp2_with fail
          go_roundw
          case rel => exact ⟨i + 1, Aw, nw, cw, by omega, by go_num, rfl, o, bw⟩
          case measure => simp [intOf]; omega
    · obtain rfl : i = n := by omega
      obtain ⟨wL, rfl⟩ : ∃ W, W = wr := ⟨_, rfl⟩
      obtain ⟨LV, hLV⟩ : ∃ l, Sp.live (K : Int) m f fi ps = l := ⟨_, rfl⟩
      have HLV := Lib.hid hLV
      rw [show liveTo (K : Int) m f fi ps i = LV by rw [← hLV, Sp.live, hpl]] at o
      rw [hLV] at HLW HLL
      have hnv : LV.length = nv := by obtain ⟨_, _, e, _⟩ := OwnL.form o; injection e with _ e2; exact e2.symm
      have la := OwnL.lst o HLW.out
      have L1 := h1.below (b4.mono hB)
      have L2 := h2.below (b4.mono hB)
      have L3 := h3.below (b4.mono hB)
      have hBL := Nat.le_trans hB b4.size
      have hnv256 : nv ≤ 256 := by rw [← hnv]; exact HLL.out
      clear o bw hp h1 h2 h3 HPX HRW hLV b3 hn64 hn1
      go_wp2_with fail
      go_loopw [13] (fun ov W => ∃ (no : Nat) (Ao : Option Addr) (co : Nat) (out : List (Int × Int)), ov = .slice Ao no co ∧ OwnL kP 39 W wL.heap.size (.slice Ao no co) out ∧ (∀ x ∈ out, pwf x) ∧ ToldTo (foldV (K : Int) m f fi) LV out ∧ Below wL.heap.size wL W) (fun ov _ => nv + 1 - nOf ov)
      case atStart => exact ⟨0, none, 0, [], rfl, OwnL.nil _ _ _ _, (fun x hx => by cases hx), ToldTo.none _ _, Below.refl _ _⟩
      case round =>
        obtain ⟨no, Ao, co, out, rfl, oo, how, hT, bw⟩ := hrel
        obtain ⟨wO, rfl⟩ : ∃ W, W = wr := ⟨_, rfl⟩
        have hol : out.length = no := by obtain ⟨_, _, e, _⟩ := OwnL.form oo; injection e with _ e2; exact e2.symm
        have lO := la.below bw
        have sO := bw.size
        have qO := q1.after bw
        have HT := Lib.hid hT
        clear hT
        go_wp2_with fail
        go_loopw [14, 15, 16] (fun sv kv iv W => ∃ t : Nat, t ≤ nv ∧ iv = .int .i64 t ∧ sv = .bool (nextOf out (LV.take t)).1 ∧ kv = .int .i64 (nextOf out (LV.take t)).2 ∧ Below wO.heap.size wO W) (fun _ _ x _ => nv - (intOf x).toNat)
        case atStart => exact ⟨0, by omega, rfl, rfl, rfl, Below.refl _ _⟩
        case round =>
          obtain ⟨t, ht, rfl, rfl, rfl, bi⟩ := hrel
          have HSA := Lib.hid (fun (h : t < nv) => nextOf_at out (l := LV) (t := t) (by omega))
          have HSZ := Lib.hid (fun (h : t = nv) => show nextOf out (LV.take t) = nextOf out LV by rw [List.take_of_length_le (by omega)])
          obtain ⟨s, hs⟩ : ∃ s, nextOf out (LV.take t) = s := ⟨_, rfl⟩
          rw [hs] at HSA HSZ ⊢
          clear hs
          obtain ⟨sb, sk⟩ := s
          dsimp only
          have sI := bi.size
          by_cases htl : t < nv
          · have htl' : (t : Int) < (nv : Int) := by omega
            have HSA := Lib.hid (HSA.out htl)
            clear HSZ
            have lw := lO.below (bi.mono sO)
            obtain ⟨ba, offa, rfl, hba, hx⟩ := lw.at_ htl
            have hxw := lw.wf_at htl
            clear lw
            have hx : wr.rangeAt ba (offa + t * 4) (LV.getD t R0).cells := hx
            generalize LV.getD t R0 = x at hx hxw HSA
            obtain ⟨xd, xk, xv, xs⟩ := x
            have hx : wr.rangeAt ba (offa + t * 4) [.bool xd, .int .i64 xk, .int .i64 xv, .int .i64 xs] := hx
            have obw := OwnL.below oo bi
            have hba2 : ba < wr.heap.size := by omega
            go_wp2_with fail
            by_cases h0 : no = 0
            · obtain ⟨lb, hlb⟩ : ∃ l, laterB out ⟨xd, xk, xv, xs⟩ = l := ⟨_, rfl⟩
              obtain rfl : true = lb := by rw [← hlb, laterB_nil (by omega)]
              obtain ⟨lb, hlt⟩ : ∃ l, true = l := ⟨_, rfl⟩
              have HLB := Lib.hid (hlb.trans hlt)
              have hz0 : (no : Int) = 0 := by omega
              clear hlb
              refine wp_region_held (S := fun W => Below wr.heap.size wr W) (by kernel_rfl) ?_
              change wpAnyH _ _ _ _ _ _ _ _ wr.drew
              have c0 := (Below.refl wr.heap.size wr).drew
              refine Held.tk (v := .slice Ao no co) 0 (some 67) rfl (Held.y_move rfl rfl) c0 ?_
              simp only [Act.put, Z1, Z2, Z3]
              refine Held.tk (v := .int .i64 (no : Int)) 1 (some 68) rfl (Held.y_len rfl rfl Tryd.underlying29) c0 ?_
              simp only [Act.put, Z1, Z2, Z3]
              refine Held.tk (v := .bool true) 2 (some 69) rfl (Held.y_eqI rfl rfl rfl (by simp; omega)) c0 ?_
              simp only [Act.put, Z1, Z2, Z3]
              refine Held.tk (v := .bool true) 3 (some 70) rfl (Held.y_move rfl rfl) c0 ?_
              simp only [Act.put, Z1, Z2, Z3]
              refine Held.skip 4 (some 71) rfl rfl (by kernel_rfl) (by kernel_rfl) (by kernel_rfl) (fun _ _ _ h => h) rfl c0 ?_
              simp only [Act.put, Z1, Z2, Z3]
              refine Held.skip 5 (some 72) rfl rfl (by kernel_rfl) (by kernel_rfl) (by kernel_rfl) (fun _ _ _ h => h) rfl c0 ?_
              simp only [Act.put, Z1, Z2, Z3]
              refine Held.skip 6 (some 73) rfl rfl (by kernel_rfl) (by kernel_rfl) (by kernel_rfl) (fun _ _ _ h => h) rfl c0 ?_
              simp only [Act.put, Z1, Z2, Z3]
              refine Held.skip 7 (some 74) rfl rfl (by kernel_rfl) (by kernel_rfl) (by kernel_rfl) (fun _ _ _ h => h) rfl c0 ?_
              simp only [Act.put, Z1, Z2, Z3]
              refine Held.skip 8 (some 75) rfl rfl (by kernel_rfl) (by kernel_rfl) (by kernel_rfl) (fun _ _ _ h => h) rfl c0 ?_
              simp only [Act.put, Z1, Z2, Z3]
              refine Held.skip 9 (some 76) rfl rfl (by kernel_rfl) (by kernel_rfl) (by kernel_rfl) (fun _ _ _ h => h) rfl c0 ?_
              simp only [Act.put, Z1, Z2, Z3]
              refine Held.skip 10 (some 77) rfl rfl (by kernel_rfl) (by kernel_rfl) (by kernel_rfl) (fun _ _ _ h => h) rfl c0 ?_
              simp only [Act.put, Z1, Z2, Z3]
              refine Held.skip 11 (some 78) rfl rfl (by kernel_rfl) (by kernel_rfl) (by kernel_rfl) (fun _ _ _ h => h) rfl c0 ?_
              simp only [Act.put, Z1, Z2, Z3]
              refine Held.skip 12 (some 79) rfl rfl (by kernel_rfl) (by kernel_rfl) (by kernel_rfl) (fun _ _ _ h => h) rfl c0 ?_
              simp only [Act.put, Z1, Z2, Z3]
              refine Held.skip 13 (some 80) rfl rfl (by kernel_rfl) (by kernel_rfl) (by kernel_rfl) (fun _ _ _ h => h) rfl c0 ?_
              simp only [Act.put, Z1, Z2, Z3]
              refine Held.skip 14 (some 81) rfl rfl (by kernel_rfl) (by kernel_rfl) (by kernel_rfl) (fun _ _ _ h => h) rfl c0 ?_
              simp only [Act.put, Z1, Z2, Z3]
              refine Held.skip 15 (some 82) rfl rfl (by kernel_rfl) (by kernel_rfl) (by kernel_rfl) (fun _ _ _ h => h) rfl c0 ?_
              simp only [Act.put, Z1, Z2, Z3]
              refine Held.skip 16 (some 83) rfl rfl (by kernel_rfl) (by kernel_rfl) (by kernel_rfl) (fun _ _ _ h => h) rfl c0 ?_
              simp only [Act.put, Z1, Z2, Z3]
              refine Held.tk (v := .bool true) 17 (some 84) rfl (Held.y_pick rfl rfl rfl) c0 ?_
              simp only [Act.put, Z1, Z2, Z3]
              refine Held.tk (v := .bool true) 18 (some 17) rfl (Held.y_assign rfl rfl) c0 ?_
              simp only [Act.put, Z1, Z2, Z3]
              refine wpAnyH_done (by kernel_rfl) ?_ _
              rw [hlt]
              clear hlt h0 hz0
              have hx := range_below hx c0 hba2
              have bi := bi.trans (c0.mono sI)
              have hba2 := Nat.lt_of_lt_of_le hba2 c0.size
              have sI := bi.size
              generalize wr.drew = wq at hx bi hba2 sI ⊢
              clear c0
              cases lb with
              | false =>
                have HNX := Lib.hid (show nextS1 out (sb, sk) ⟨xd, xk, xv, xs⟩ = (sb, sk) by rw [nextS1, if_neg (by rw [HLB.out]; simp)])
                go_wp2_with fail
                go_roundw
                case rel => exact ⟨t + 1, by omega, by go_num, by rw [HSA.out, HNX.out], by rw [HSA.out, HNX.out], bi⟩
                case measure => simp [intOf]; omega
              | true =>
                cases sb with
                | false =>
                  have HNX := Lib.hid (show nextS1 out (false, sk) ⟨xd, xk, xv, xs⟩ = (true, xk) by rw [nextS1, if_pos ⟨HLB.out, .inl rfl⟩])
                  go_wp2_with fail
                  refine wp_region_held (S := fun W => Below wq.heap.size wq W) (by kernel_rfl) ?_
                  change wpAnyH _ _ _ _ _ _ _ _ wq.drew
                  have c0 := (Below.refl wq.heap.size wq).drew
                  refine Held.tk (v := .slice (some ⟨ba, offa, none⟩) nv cv) 0 (some 99) rfl (Held.y_move rfl rfl) c0 ?_
                  simp only [Act.put, Z1, Z2, Z3]
                  refine Held.tk (v := .int .i64 (t : Int)) 1 (some 100) rfl (Held.y_move rfl rfl) c0 ?_
                  simp only [Act.put, Z1, Z2, Z3]
                  refine Held.tk (v := .pointer (some ⟨ba, offa + t * 4, none⟩)) 2 (some 101) rfl (Held.y_addr rfl rfl rfl (Rs.run_addr_of (P := Tryd.prog) 48 51 ba offa nv cv t 4 .i64 Tryd.underlying48 (by kernel_rfl) htl)) c0 ?_
                  simp only [Act.put, Z1, Z2, Z3]
                  refine Held.tk (v := .pointer (some ⟨ba, offa + t * 4 + 1, none⟩)) 3 (some 102) rfl (Held.y_field (k := 1) (s := 0) rfl rfl Tryd.underlying51 rfl (by kernel_rfl) rfl) c0 ?_
                  simp only [Act.put, Z1, Z2, Z3]
                  refine Held.tk (v := .int .i64 xk) 4 (some 103) rfl (Held.y_load rfl rfl (by kernel_rfl) (fun X hX => range_below hx hX hba2 1 _ rfl)) c0 ?_
                  simp only [Act.put, Z1, Z2, Z3]
                  refine Held.tk (v := .bool true) 5 (some 14) rfl (Held.y_assign rfl rfl) c0 ?_
                  simp only [Act.put, Z1, Z2, Z3]
                  refine Held.tk (v := .int .i64 xk) 6 (some 15) rfl (Held.y_assign rfl rfl) c0 ?_
                  simp only [Act.put, Z1, Z2, Z3]
                  refine wpAnyH_done (by kernel_rfl) ?_ _
                  have bi := bi.trans (c0.mono sI)
                  go_wp2_with fail
                  go_roundw
                  case rel => exact ⟨t + 1, by omega, by go_num, by rw [HSA.out, HNX.out], by rw [HSA.out, HNX.out], bi⟩
                  case measure => simp [intOf]; omega
                | true =>
                  by_cases hks : xk < sk
                  · have HNX := Lib.hid (show nextS1 out (true, sk) ⟨xd, xk, xv, xs⟩ = (true, xk) by rw [nextS1, if_pos ⟨HLB.out, .inr hks⟩])
                    have HKS := Lib.hid (show decide (xk < sk) = true by simpa using hks)
                    clear hks
                    go_wp2_with (first
                      | (refine on 92 ?_; refine wpList_run (w := wq) rfl (v := .pointer (some ⟨ba, offa + t * 4, none⟩)) (Held.y_addr (S := fun _ => True) rfl rfl rfl (Rs.run_addr_of (P := Tryd.prog) 48 51 ba offa nv cv t 4 .i64 Tryd.underlying48 (by kernel_rfl) htl) _ trivial) ?_)
                      | (refine on 93 ?_; refine wpList_run (w := wq) rfl (v := .pointer (some ⟨ba, offa + t * 4 + 1, none⟩)) (Held.y_field (S := fun _ => True) (k := 1) (s := 0) rfl rfl Tryd.underlying51 rfl (by kernel_rfl) rfl _ trivial) ?_)
                      | (refine on 94 ?_; refine wpList_run (w := wq) rfl (v := .int .i64 xk) (Held.y_load (S := fun W => W = wq) rfl rfl (by kernel_rfl) (fun W hW => by rw [hW]; exact hx 1 _ rfl) _ rfl) ?_)
                      | (refine on 96 ?_; refine wpList_run (w := wq) rfl (v := .bool true) (Held.y_lss (S := fun _ => True) rfl rfl rfl HKS.out _ trivial) ?_))
                    refine wp_region_held (S := fun W => Below wq.heap.size wq W) (by kernel_rfl) ?_
                    change wpAnyH _ _ _ _ _ _ _ _ wq.drew
                    have c0 := (Below.refl wq.heap.size wq).drew
                    refine Held.tk (v := .slice (some ⟨ba, offa, none⟩) nv cv) 0 (some 99) rfl (Held.y_move rfl rfl) c0 ?_
                    simp only [Act.put, Z1, Z2, Z3]
                    refine Held.tk (v := .int .i64 (t : Int)) 1 (some 100) rfl (Held.y_move rfl rfl) c0 ?_
                    simp only [Act.put, Z1, Z2, Z3]
                    refine Held.tk (v := .pointer (some ⟨ba, offa + t * 4, none⟩)) 2 (some 101) rfl (Held.y_addr rfl rfl rfl (Rs.run_addr_of (P := Tryd.prog) 48 51 ba offa nv cv t 4 .i64 Tryd.underlying48 (by kernel_rfl) htl)) c0 ?_
                    simp only [Act.put, Z1, Z2, Z3]
                    refine Held.tk (v := .pointer (some ⟨ba, offa + t * 4 + 1, none⟩)) 3 (some 102) rfl (Held.y_field (k := 1) (s := 0) rfl rfl Tryd.underlying51 rfl (by kernel_rfl) rfl) c0 ?_
                    simp only [Act.put, Z1, Z2, Z3]
                    refine Held.tk (v := .int .i64 xk) 4 (some 103) rfl (Held.y_load rfl rfl (by kernel_rfl) (fun X hX => range_below hx hX hba2 1 _ rfl)) c0 ?_
                    simp only [Act.put, Z1, Z2, Z3]
                    refine Held.tk (v := .bool true) 5 (some 14) rfl (Held.y_assign rfl rfl) c0 ?_
                    simp only [Act.put, Z1, Z2, Z3]
                    refine Held.tk (v := .int .i64 xk) 6 (some 15) rfl (Held.y_assign rfl rfl) c0 ?_
                    simp only [Act.put, Z1, Z2, Z3]
                    refine wpAnyH_done (by kernel_rfl) ?_ _
                    have bi := bi.trans (c0.mono sI)
                    go_wp2_with fail
                    go_roundw
                    case rel => exact ⟨t + 1, by omega, by go_num, by rw [HSA.out, HNX.out], by rw [HSA.out, HNX.out], bi⟩
                    case measure => simp [intOf]; omega
                  · have HNX := Lib.hid (show nextS1 out (true, sk) ⟨xd, xk, xv, xs⟩ = (true, sk) by rw [nextS1, if_neg (by rintro ⟨_, h | h⟩ <;> first | cases h | exact hks h)])
                    have HKS := Lib.hid (show decide (xk < sk) = false by simpa using hks)
                    clear hks
                    go_wp2_with (first
                      | (refine on 92 ?_; refine wpList_run (w := wq) rfl (v := .pointer (some ⟨ba, offa + t * 4, none⟩)) (Held.y_addr (S := fun _ => True) rfl rfl rfl (Rs.run_addr_of (P := Tryd.prog) 48 51 ba offa nv cv t 4 .i64 Tryd.underlying48 (by kernel_rfl) htl) _ trivial) ?_)
                      | (refine on 93 ?_; refine wpList_run (w := wq) rfl (v := .pointer (some ⟨ba, offa + t * 4 + 1, none⟩)) (Held.y_field (S := fun _ => True) (k := 1) (s := 0) rfl rfl Tryd.underlying51 rfl (by kernel_rfl) rfl _ trivial) ?_)
                      | (refine on 94 ?_; refine wpList_run (w := wq) rfl (v := .int .i64 xk) (Held.y_load (S := fun W => W = wq) rfl rfl (by kernel_rfl) (fun W hW => by rw [hW]; exact hx 1 _ rfl) _ rfl) ?_)
                      | (refine on 96 ?_; refine wpList_run (w := wq) rfl (v := .bool false) (Held.y_lss (S := fun _ => True) rfl rfl rfl HKS.out _ trivial) ?_))
                    go_roundw
                    case rel => exact ⟨t + 1, by omega, by go_num, by rw [HSA.out, HNX.out], by rw [HSA.out, HNX.out], bi⟩
                    case measure => simp [intOf]; omega
            · have hnp : 0 < no := by omega
              obtain ⟨lb, hlb⟩ : ∃ l, laterB out ⟨xd, xk, xv, xs⟩ = l := ⟨_, rfl⟩
              have HLB := Lib.hid hlb
              obtain ⟨go, rfl, _, hgo, _⟩ := own_at0 obw (by omega)
              have hy := pair_at obw how (j := no - 1) (by omega)
              rw [laterB_cons (by omega), hol] at hlb
              generalize (out.getD (no - 1) (0, 0)).1 = yk at hy hlb
              generalize (out.getD (no - 1) (0, 0)).2 = yv at hy
              dsimp only at hlb
              have HYK := Lib.hid hlb
              have HN1 := Lib.hid (show IntKind.i64.wrap ((no : Int) - 1) = ((no - 1 : Nat) : Int) by rw [IntKind.wrap_i64]; have := HT.out.few; omega)
              clear hlb
              refine wp_region_held (S := fun W => Below wr.heap.size wr W) (by kernel_rfl) ?_
              change wpAnyH _ _ _ _ _ _ _ _ wr.drew
              have c0 := (Below.refl wr.heap.size wr).drew
              refine Held.tk (v := .slice (some ⟨go, 0, none⟩) no co) 0 (some 67) rfl (Held.y_move rfl rfl) c0 ?_
              simp only [Act.put, Z1, Z2, Z3]
              refine Held.tk (v := .int .i64 (no : Int)) 1 (some 68) rfl (Held.y_len rfl rfl Tryd.underlying29) c0 ?_
              simp only [Act.put, Z1, Z2, Z3]
              refine Held.tk (v := .bool false) 2 (some 69) rfl (Held.y_eqI rfl rfl rfl (by simp; omega)) c0 ?_
              simp only [Act.put, Z1, Z2, Z3]
              refine Held.tk (v := .bool false) 3 (some 70) rfl (Held.y_move rfl rfl) c0 ?_
              simp only [Act.put, Z1, Z2, Z3]
              refine Held.tk (v := .slice (some ⟨ba, offa, none⟩) nv cv) 4 (some 71) rfl (Held.y_move rfl rfl) c0 ?_
              simp only [Act.put, Z1, Z2, Z3]
              refine Held.tk (v := .int .i64 (t : Int)) 5 (some 72) rfl (Held.y_move rfl rfl) c0 ?_
              simp only [Act.put, Z1, Z2, Z3]
              refine Held.tk (v := .pointer (some ⟨ba, offa + t * 4, none⟩)) 6 (some 73) rfl (Held.y_addr rfl rfl rfl (Rs.run_addr_of (P := Tryd.prog) 48 51 ba offa nv cv t 4 .i64 Tryd.underlying48 (by kernel_rfl) htl)) c0 ?_
              simp only [Act.put, Z1, Z2, Z3]
              refine Held.tk (v := .pointer (some ⟨ba, offa + t * 4 + 1, none⟩)) 7 (some 74) rfl (Held.y_field (k := 1) (s := 0) rfl rfl Tryd.underlying51 rfl (by kernel_rfl) rfl) c0 ?_
              simp only [Act.put, Z1, Z2, Z3]
              refine Held.tk (v := .int .i64 xk) 8 (some 75) rfl (Held.y_load rfl rfl (by kernel_rfl) (fun X hX => range_below hx hX hba2 1 _ rfl)) c0 ?_
              simp only [Act.put, Z1, Z2, Z3]
              refine Held.tk (v := .slice (some ⟨go, 0, none⟩) no co) 9 (some 76) rfl (Held.y_move rfl rfl) c0 ?_
              simp only [Act.put, Z1, Z2, Z3]
              refine Held.tk (v := .slice (some ⟨go, 0, none⟩) no co) 10 (some 77) rfl (Held.y_move rfl rfl) c0 ?_
              simp only [Act.put, Z1, Z2, Z3]
              refine Held.tk (v := .int .i64 (no : Int)) 11 (some 78) rfl (Held.y_len rfl rfl Tryd.underlying29) c0 ?_
              simp only [Act.put, Z1, Z2, Z3]
              refine Held.tk (v := .int .i64 ((no - 1 : Nat) : Int)) 12 (some 79) rfl (Held.y_int rfl rfl rfl (Held.run_sub 3 .i64 HN1.out)) c0 ?_
              simp only [Act.put, Z1, Z2, Z3]
              refine Held.tk (v := .pointer (some ⟨go, 0 + (no - 1) * 2, none⟩)) 13 (some 80) rfl (Held.y_addr rfl rfl rfl (Rs.run_addr_of (P := Tryd.prog) 29 39 go 0 no co (no - 1) 2 .i64 Tryd.underlying29 (by kernel_rfl) (by omega))) c0 ?_
              simp only [Act.put, Z1, Z2, Z3]
              refine Held.tk (v := .pointer (some ⟨go, 0 + (no - 1) * 2 + 0, none⟩)) 14 (some 81) rfl (Held.y_field (k := 0) (s := 0) rfl rfl Tryd.underlying39 rfl (by kernel_rfl) rfl) c0 ?_
              simp only [Act.put, Z1, Z2, Z3]
              refine Held.tk (v := .int .i64 yk) 15 (some 82) rfl (Held.y_load rfl rfl (by kernel_rfl) (fun X hX => range_below hy hX hgo 0 _ rfl)) c0 ?_
              simp only [Act.put, Z1, Z2, Z3]
              refine Held.tk (v := .bool lb) 16 (some 83) rfl (Held.y_gtr rfl rfl rfl HYK.out) c0 ?_
              simp only [Act.put, Z1, Z2, Z3]
              refine Held.tk (v := .bool lb) 17 (some 84) rfl (Held.y_pickF rfl rfl rfl) c0 ?_
              simp only [Act.put, Z1, Z2, Z3]
              refine Held.tk (v := .bool lb) 18 (some 17) rfl (Held.y_assign rfl rfl) c0 ?_
              simp only [Act.put, Z1, Z2, Z3]
              refine wpAnyH_done (by kernel_rfl) ?_ _
              clear hy HYK HN1
              have hx := range_below hx c0 hba2
              have bi := bi.trans (c0.mono sI)
              have hba2 := Nat.lt_of_lt_of_le hba2 c0.size
              have sI := bi.size
              generalize wr.drew = wq at hx bi hba2 sI ⊢
              clear c0
              cases lb with
              | false =>
                have HNX := Lib.hid (show nextS1 out (sb, sk) ⟨xd, xk, xv, xs⟩ = (sb, sk) by rw [nextS1, if_neg (by rw [HLB.out]; simp)])
                go_wp2_with fail
                go_roundw
                case rel => exact ⟨t + 1, by omega, by go_num, by rw [HSA.out, HNX.out], by rw [HSA.out, HNX.out], bi⟩
                case measure => simp [intOf]; omega
              | true =>
                cases sb with
                | false =>
                  have HNX := Lib.hid (show nextS1 out (false, sk) ⟨xd, xk, xv, xs⟩ = (true, xk) by rw [nextS1, if_pos ⟨HLB.out, .inl rfl⟩])
                  go_wp2_with fail
                  refine wp_region_held (S := fun W => Below wq.heap.size wq W) (by kernel_rfl) ?_
                  change wpAnyH _ _ _ _ _ _ _ _ wq.drew
                  have c0 := (Below.refl wq.heap.size wq).drew
                  refine Held.tk (v := .slice (some ⟨ba, offa, none⟩) nv cv) 0 (some 99) rfl (Held.y_move rfl rfl) c0 ?_
                  simp only [Act.put, Z1, Z2, Z3]
                  refine Held.tk (v := .int .i64 (t : Int)) 1 (some 100) rfl (Held.y_move rfl rfl) c0 ?_
                  simp only [Act.put, Z1, Z2, Z3]
                  refine Held.tk (v := .pointer (some ⟨ba, offa + t * 4, none⟩)) 2 (some 101) rfl (Held.y_addr rfl rfl rfl (Rs.run_addr_of (P := Tryd.prog) 48 51 ba offa nv cv t 4 .i64 Tryd.underlying48 (by kernel_rfl) htl)) c0 ?_
                  simp only [Act.put, Z1, Z2, Z3]
                  refine Held.tk (v := .pointer (some ⟨ba, offa + t * 4 + 1, none⟩)) 3 (some 102) rfl (Held.y_field (k := 1) (s := 0) rfl rfl Tryd.underlying51 rfl (by kernel_rfl) rfl) c0 ?_
                  simp only [Act.put, Z1, Z2, Z3]
                  refine Held.tk (v := .int .i64 xk) 4 (some 103) rfl (Held.y_load rfl rfl (by kernel_rfl) (fun X hX => range_below hx hX hba2 1 _ rfl)) c0 ?_
                  simp only [Act.put, Z1, Z2, Z3]
                  refine Held.tk (v := .bool true) 5 (some 14) rfl (Held.y_assign rfl rfl) c0 ?_
                  simp only [Act.put, Z1, Z2, Z3]
                  refine Held.tk (v := .int .i64 xk) 6 (some 15) rfl (Held.y_assign rfl rfl) c0 ?_
                  simp only [Act.put, Z1, Z2, Z3]
                  refine wpAnyH_done (by kernel_rfl) ?_ _
                  have bi := bi.trans (c0.mono sI)
                  go_wp2_with fail
                  go_roundw
                  case rel => exact ⟨t + 1, by omega, by go_num, by rw [HSA.out, HNX.out], by rw [HSA.out, HNX.out], bi⟩
                  case measure => simp [intOf]; omega
                | true =>
                  by_cases hks : xk < sk
                  · have HNX := Lib.hid (show nextS1 out (true, sk) ⟨xd, xk, xv, xs⟩ = (true, xk) by rw [nextS1, if_pos ⟨HLB.out, .inr hks⟩])
                    have HKS := Lib.hid (show decide (xk < sk) = true by simpa using hks)
                    clear hks
                    go_wp2_with (first
                      | (refine on 92 ?_; refine wpList_run (w := wq) rfl (v := .pointer (some ⟨ba, offa + t * 4, none⟩)) (Held.y_addr (S := fun _ => True) rfl rfl rfl (Rs.run_addr_of (P := Tryd.prog) 48 51 ba offa nv cv t 4 .i64 Tryd.underlying48 (by kernel_rfl) htl) _ trivial) ?_)
                      | (refine on 93 ?_; refine wpList_run (w := wq) rfl (v := .pointer (some ⟨ba, offa + t * 4 + 1, none⟩)) (Held.y_field (S := fun _ => True) (k := 1) (s := 0) rfl rfl Tryd.underlying51 rfl (by kernel_rfl) rfl _ trivial) ?_)
                      | (refine on 94 ?_; refine wpList_run (w := wq) rfl (v := .int .i64 xk) (Held.y_load (S := fun W => W = wq) rfl rfl (by kernel_rfl) (fun W hW => by rw [hW]; exact hx 1 _ rfl) _ rfl) ?_)
                      | (refine on 96 ?_; refine wpList_run (w := wq) rfl (v := .bool true) (Held.y_lss (S := fun _ => True) rfl rfl rfl HKS.out _ trivial) ?_))
                    refine wp_region_held (S := fun W => Below wq.heap.size wq W) (by kernel_rfl) ?_
                    change wpAnyH _ _ _ _ _ _ _ _ wq.drew
                    have c0 := (Below.refl wq.heap.size wq).drew
                    refine Held.tk (v := .slice (some ⟨ba, offa, none⟩) nv cv) 0 (some 99) rfl (Held.y_move rfl rfl) c0 ?_
                    simp only [Act.put, Z1, Z2, Z3]
                    refine Held.tk (v := .int .i64 (t : Int)) 1 (some 100) rfl (Held.y_move rfl rfl) c0 ?_
                    simp only [Act.put, Z1, Z2, Z3]
                    refine Held.tk (v := .pointer (some ⟨ba, offa + t * 4, none⟩)) 2 (some 101) rfl (Held.y_addr rfl rfl rfl (Rs.run_addr_of (P := Tryd.prog) 48 51 ba offa nv cv t 4 .i64 Tryd.underlying48 (by kernel_rfl) htl)) c0 ?_
                    simp only [Act.put, Z1, Z2, Z3]
                    refine Held.tk (v := .pointer (some ⟨ba, offa + t * 4 + 1, none⟩)) 3 (some 102) rfl (Held.y_field (k := 1) (s := 0) rfl rfl Tryd.underlying51 rfl (by kernel_rfl) rfl) c0 ?_
                    simp only [Act.put, Z1, Z2, Z3]
                    refine Held.tk (v := .int .i64 xk) 4 (some 103) rfl (Held.y_load rfl rfl (by kernel_rfl) (fun X hX => range_below hx hX hba2 1 _ rfl)) c0 ?_
                    simp only [Act.put, Z1, Z2, Z3]
                    refine Held.tk (v := .bool true) 5 (some 14) rfl (Held.y_assign rfl rfl) c0 ?_
                    simp only [Act.put, Z1, Z2, Z3]
                    refine Held.tk (v := .int .i64 xk) 6 (some 15) rfl (Held.y_assign rfl rfl) c0 ?_
                    simp only [Act.put, Z1, Z2, Z3]
                    refine wpAnyH_done (by kernel_rfl) ?_ _
                    have bi := bi.trans (c0.mono sI)
                    go_wp2_with fail
                    go_roundw
                    case rel => exact ⟨t + 1, by omega, by go_num, by rw [HSA.out, HNX.out], by rw [HSA.out, HNX.out], bi⟩
                    case measure => simp [intOf]; omega
                  · have HNX := Lib.hid (show nextS1 out (true, sk) ⟨xd, xk, xv, xs⟩ = (true, sk) by rw [nextS1, if_neg (by rintro ⟨_, h | h⟩ <;> first | cases h | exact hks h)])
                    have HKS := Lib.hid (show decide (xk < sk) = false by simpa using hks)
                    clear hks
                    go_wp2_with (first
                      | (refine on 92 ?_; refine wpList_run (w := wq) rfl (v := .pointer (some ⟨ba, offa + t * 4, none⟩)) (Held.y_addr (S := fun _ => True) rfl rfl rfl (Rs.run_addr_of (P := Tryd.prog) 48 51 ba offa nv cv t 4 .i64 Tryd.underlying48 (by kernel_rfl) htl) _ trivial) ?_)
                      | (refine on 93 ?_; refine wpList_run (w := wq) rfl (v := .pointer (some ⟨ba, offa + t * 4 + 1, none⟩)) (Held.y_field (S := fun _ => True) (k := 1) (s := 0) rfl rfl Tryd.underlying51 rfl (by kernel_rfl) rfl _ trivial) ?_)
                      | (refine on 94 ?_; refine wpList_run (w := wq) rfl (v := .int .i64 xk) (Held.y_load (S := fun W => W = wq) rfl rfl (by kernel_rfl) (fun W hW => by rw [hW]; exact hx 1 _ rfl) _ rfl) ?_)
                      | (refine on 96 ?_; refine wpList_run (w := wq) rfl (v := .bool false) (Held.y_lss (S := fun _ => True) rfl rfl rfl HKS.out _ trivial) ?_))
                    go_roundw
                    case rel => exact ⟨t + 1, by omega, by go_num, by rw [HSA.out, HNX.out], by rw [HSA.out, HNX.out], bi⟩
                    case measure => simp [intOf]; omega
          · obtain rfl : t = nv := by omega
            have HSZ := Lib.hid (HSZ.out rfl)
            clear HSA
            have HN := Lib.hid (HSZ.out.symm)
            have ow := OwnL.below oo bi
            have bC := bw.trans (bi.mono sO)
            cases sb with
            | false =>
              have hTold := HT.out.told (by rw [HN.out])
              have hfew := HT.out.few
              obtain ⟨wC, rfl⟩ : ∃ W, W = wr := ⟨_, rfl⟩
              obtain ⟨G, hG, hGE⟩ : ∃ G : Int × Int → Int × Int, (fun p : Int × Int => (p.1, finishV (K : Int) m f fi p.1 p.2)) = G ∧ ∀ x, G x = (x.1, finishV (K : Int) m f fi x.1 x.2) := ⟨_, rfl, fun _ => rfl⟩
              have HG := Lib.hid hG
              have HGP := Lib.hid (fun x (hx : pwf x) => show pwf (G x) by rw [hGE]; exact ⟨hx.1, HGW.out _ _ hx.1 hx.2⟩)
              have HGE := Lib.hid hGE
              clear hG hGE la lO oo bw bi qO HN HT
              go_wp2_with fail
              go_loopw [21] (fun iv W => ∃ t : Nat, t ≤ no ∧ iv = .int .i64 t ∧ OwnL kP 39 W wL.heap.size (.slice Ao no co) (finTo G out t) ∧ Below wL.heap.size wL W) (fun x _ => no - (intOf x).toNat)
              case atStart => exact ⟨0, by omega, rfl, by simpa [finTo] using ow, bC⟩
              case round =>
                clear ow bC
                obtain ⟨t, ht, rfl, ow, bC⟩ := hrel
                have qC := q1.after bC
                have sC := bC.size
                by_cases htl : t < no
                · have htl' : (t : Int) < (no : Int) := by omega
                  obtain ⟨g, rfl, hg0, hg1, _⟩ := own_at0 ow (by omega)
                  have hpt := finTo_getD G out t (by omega)
                  have hx := pair_at ow (finTo_wf how HGP.out t) htl
                  have hxw := how (out.getD t (0, 0)) (by rw [List.getD_eq_getElem?_getD, List.getElem?_eq_getElem (by omega)]; exact List.getElem_mem _)
                  have HST := Lib.hid (finTo_set G out t (by omega))
                  rw [HGE.out] at HST
                  have HFL := Lib.hid (finTo_length G out t)
                  have HK1 := Lib.hid (show ((finTo G out t).getD t (0, 0)).1 = (out.getD t (0, 0)).1 by rw [hpt])
                  rw [hpt] at hx
                  obtain ⟨hxk, hxv⟩ := hxw
                  generalize (out.getD t (0, 0)).1 = xk at hx hxk HST HK1
                  generalize (out.getD t (0, 0)).2 = xv at hx hxv HST
                  obtain ⟨z, hz⟩ : ∃ z, finishV (K : Int) m f fi xk xv = z := ⟨_, rfl⟩
                  rw [hz] at HST
                  have HZ := Lib.hid hz
                  clear hz hpt
                  go_wp2_with fail
                  refine Held.wp_region_bar (s := 16) (T := fun X => Below wr.heap.size wr X) (by kernel_rfl) ?_
                  change wpAnyB _ _ _ _ _ _ _ _ _ wr.drew
                  have c0 := (Below.refl wr.heap.size wr).drew
                  refine Held.takeA (v := .slice (some ⟨g, 0, none⟩) no co) 0 (some 145) rfl rfl (by kernel_rfl) (by kernel_rfl) (by kernel_rfl) (by decide) (fun _ _ _ h => h) rfl (Held.y_move rfl rfl) (fun _ => c0) ?_
                  simp only [Act.put, Z1, Z2, Z3]
                  refine Held.takeA (v := .int .i64 (t : Int)) 1 (some 146) rfl rfl (by kernel_rfl) (by kernel_rfl) (by kernel_rfl) (by decide) (fun _ _ _ h => h) rfl (Held.y_move rfl rfl) (fun _ => c0) ?_
                  simp only [Act.put, Z1, Z2, Z3]
                  refine Held.takeB (v := .agg #[.int .i64 (K : Int), .slice A1 n1 c1, .slice A2 n2 c2, .slice A3 n3 c3]) 2 (some 147) [16] rfl rfl (by kernel_rfl) (by kernel_rfl) (by kernel_rfl) (by kernel_rfl) (fun _ _ _ h => h) rfl (Held.y_load_blk (n := 4) rfl rfl Tryd.underlying26 rfl info_prog rfl (fun W hW => qC.after hW)) c0 ?_
                  simp only [Act.put, Z1, Z2, Z3]
                  refine Held.takeA (v := .slice (some ⟨g, 0, none⟩) no co) 3 (some 148) rfl rfl (by kernel_rfl) (by kernel_rfl) (by kernel_rfl) (by decide) (fun _ _ _ h => h) rfl (Held.y_move rfl rfl) (fun _ => c0) ?_
                  simp only [Act.put, Z1, Z2, Z3]
                  refine Held.takeA (v := .int .i64 (t : Int)) 4 (some 149) rfl rfl (by kernel_rfl) (by kernel_rfl) (by kernel_rfl) (by decide) (fun _ _ _ h => h) rfl (Held.y_move rfl rfl) (fun _ => c0) ?_
                  simp only [Act.put, Z1, Z2, Z3]
                  refine Held.takeA (v := .pointer (some ⟨g, 0 + t * 2, none⟩)) 5 (some 150) rfl rfl (by kernel_rfl) (by kernel_rfl) (by kernel_rfl) (by decide) (fun _ _ _ h => h) rfl (Held.y_addr rfl rfl rfl (Rs.run_addr_of (P := Tryd.prog) 29 39 g 0 no co t 2 .i64 Tryd.underlying29 (by kernel_rfl) htl)) (fun _ => c0) ?_
                  simp only [Act.put, Z1, Z2, Z3]
                  refine Held.takeA (v := .pointer (some ⟨g, 0 + t * 2 + 0, none⟩)) 6 (some 151) rfl rfl (by kernel_rfl) (by kernel_rfl) (by kernel_rfl) (by decide) (fun _ _ _ h => h) rfl (Held.y_field (k := 0) (s := 0) rfl rfl Tryd.underlying39 rfl (by kernel_rfl) rfl) (fun _ => c0) ?_
                  simp only [Act.put, Z1, Z2, Z3]
                  refine Held.takeB (v := .int .i64 xk) 7 (some 152) [16] rfl rfl (by kernel_rfl) (by kernel_rfl) (by kernel_rfl) (by kernel_rfl) (fun _ _ _ h => h) rfl (Held.y_load rfl rfl (by kernel_rfl) (fun X hX => range_below hx hX hg1 0 _ rfl)) c0 ?_
                  simp only [Act.put, Z1, Z2, Z3]
                  refine Held.takeA (v := .slice (some ⟨g, 0, none⟩) no co) 8 (some 153) rfl rfl (by kernel_rfl) (by kernel_rfl) (by kernel_rfl) (by decide) (fun _ _ _ h => h) rfl (Held.y_move rfl rfl) (fun _ => c0) ?_
                  simp only [Act.put, Z1, Z2, Z3]
                  refine Held.takeA (v := .int .i64 (t : Int)) 9 (some 154) rfl rfl (by kernel_rfl) (by kernel_rfl) (by kernel_rfl) (by decide) (fun _ _ _ h => h) rfl (Held.y_move rfl rfl) (fun _ => c0) ?_
                  simp only [Act.put, Z1, Z2, Z3]
                  refine Held.takeA (v := .pointer (some ⟨g, 0 + t * 2, none⟩)) 10 (some 155) rfl rfl (by kernel_rfl) (by kernel_rfl) (by kernel_rfl) (by decide) (fun _ _ _ h => h) rfl (Held.y_addr rfl rfl rfl (Rs.run_addr_of (P := Tryd.prog) 29 39 g 0 no co t 2 .i64 Tryd.underlying29 (by kernel_rfl) htl)) (fun _ => c0) ?_
                  simp only [Act.put, Z1, Z2, Z3]
                  refine Held.takeA (v := .pointer (some ⟨g, 0 + t * 2 + 1, none⟩)) 11 (some 156) rfl rfl (by kernel_rfl) (by kernel_rfl) (by kernel_rfl) (by decide) (fun _ _ _ h => h) rfl (Held.y_field (k := 1) (s := 0) rfl rfl Tryd.underlying39 rfl (by kernel_rfl) rfl) (fun _ => c0) ?_
                  simp only [Act.put, Z1, Z2, Z3]
                  refine Held.takeB (v := .int .i64 xv) 12 (some 157) [16] rfl rfl (by kernel_rfl) (by kernel_rfl) (by kernel_rfl) (by kernel_rfl) (fun _ _ _ h => h) rfl (Held.y_load rfl rfl (by kernel_rfl) (fun X hX => range_below hx hX hg1 1 _ rfl)) c0 ?_
                  simp only [Act.put, Z1, Z2, Z3]
                  refine Held.oneB 13 (by kernel_rfl) ?_
                  have bX : Below wL.heap.size wL wr.drew := bC.trans (c0.mono sC)
                  refine Held.op_call 13 (some 158) 25 #[.agg #[.int .i64 (K : Int), .slice A1 n1 c1, .slice A2 n2 c2, .slice A3 n3 c3], .int .i64 xk, .int .i64 xv] rfl rfl rfl rfl (enters_of Tryd.func25 (by kernel_rfl) rfl) (by simp [Act.eval])
                    (rfinish_any B (K : Int) A1 A2 A3 n1 c1 n2 c2 n3 c3 m f fi xk xv _ hxk hxv (L1.below (bX.mono hBL)) (L2.below (bX.mono hBL)) (L3.below (bX.mono hBL)) (Nat.le_trans hBL bX.size) l1 l2 l3) ?_
                  rintro e w5 ⟨rfl, f1⟩
                  rw [HZ.out]
                  have c1 := c0.trans (f1.mono c0.size)
                  refine ⟨_, rfl, (fun _ => c1), ?_⟩
                  simp only [Act.put, Z1, Z2, Z3]
                  refine Held.takeA (v := .pointer (some ⟨g, 0 + t * 2, none⟩)) 14 (some 159) rfl rfl (by kernel_rfl) (by kernel_rfl) (by kernel_rfl) (by decide) (fun _ _ _ h => h) rfl (Held.y_addr rfl rfl rfl (Rs.run_addr_of (P := Tryd.prog) 29 39 g 0 no co t 2 .i64 Tryd.underlying29 (by kernel_rfl) htl)) (fun _ => c1) ?_
                  simp only [Act.put, Z1, Z2, Z3]
                  refine Held.takeA (v := .pointer (some ⟨g, 0 + t * 2 + 1, none⟩)) 15 (some 160) rfl rfl (by kernel_rfl) (by kernel_rfl) (by kernel_rfl) (by decide) (fun _ _ _ h => h) rfl (Held.y_field (k := 1) (s := 0) rfl rfl Tryd.underlying39 rfl (by kernel_rfl) rfl) (fun _ => c1) ?_
                  simp only [Act.put, Z1, Z2, Z3]
                  refine Held.oneB 16 (by kernel_rfl) ?_
                  refine Sp.op_store_own 16 none 2 (0 + t * 2 + 1) t z rfl rfl rfl rfl rfl (by omega) rfl (by kernel_rfl) (OwnL.below ow c1) (by rw [HFL.out]; omega) ?_
                  intro w6 o6 g6
                  refine ⟨(fun h => by cases h.symm.trans (show _ = true by kernel_rfl)), ?_⟩
                  simp only [Act.put]
                  refine doneB (by kernel_rfl) ?_ _
                  rw [HK1.out, HST.out] at o6
                  have b6 := (bC.trans (c1.mono sC)).grown g6 (Nat.le_trans sC c1.size) (fun r e => by cases e; exact hg0)
                  go_wp2_with fail
                  go_roundw
                  case rel => exact ⟨t + 1, by omega, by go_num, o6, b6⟩
                  case measure => simp [intOf]; omega
                · obtain rfl : t = no := by omega
                  rw [finTo_all G out t (by omega)] at ow
                  have hWF := finTo_wf how HGP.out t
                  rw [finTo_all G out t (by omega)] at hWF
                  have bF := b4.trans (bC.mono b4.size)
                  go_wp2_with fail
                  go_ret2
                  refine ⟨_, out, rfl, ?_, ?_, ?_, by omega, bF⟩
                  · rw [HG.out]; exact OwnL.less ow b4.size
                  · rw [HG.out]; exact hWF
                  · rw [HLV.out]; exact hTold
            | true =>
              have HTS := Lib.hid (show ToldTo (foldV (K : Int) m f fi) LV (out ++ [(sk, (oneOf (foldV (K : Int) m f fi) sk LV).2)]) by have h9 := HT.out.step (by rw [HN.out]); rw [HN.out] at h9; exact h9)
              have HSK := Lib.hid (show (Lit.int .i64 sk).wf = true by
                obtain ⟨⟨r, hr, _, hk⟩, _⟩ := (nextOf_says out LV).2 (by rw [HN.out])
                rw [HN.out] at hk
                dsimp only at hk
                rw [← hk]
                exact (HLW.out r hr).1)
              have HVW := Lib.hid (oneOf_wf HFW.out sk LV HLW.out)
              clear oo bi HN HSZ HT
              obtain ⟨wI, rfl⟩ : ∃ W, W = wr := ⟨_, rfl⟩
              have lI := la.below bC
              have qI := q1.after bC
              have M1 := L1.below (bC.mono hBL)
              have M2 := L2.below (bC.mono hBL)
              have M3 := L3.below (bC.mono hBL)
              have hBC := Nat.le_trans hBL bC.size
              have sIL := bC.size
              obtain ⟨F, hF⟩ : ∃ F, foldV (K : Int) m f fi = F := ⟨_, rfl⟩
              have HF := Lib.hid (fun a v => (congrFun (congrFun hF a) v : foldV (K : Int) m f fi a v = F a v))
              rw [hF] at HTS HVW
              clear hF lO qO bw ht htl
              go_wp2_with fail
              go_loopw [18, 19, 20] (fun bv vv iv W => ∃ y : Nat, y ≤ t ∧ iv = .int .i64 y ∧ bv = .bool (oneOf F sk (LV.take y)).1 ∧ vv = .int .i64 (oneOf F sk (LV.take y)).2 ∧ (Lit.int .i64 (oneOf F sk (LV.take y)).2).wf = true ∧ Below wI.heap.size wI W) (fun _ _ x _ => t - (intOf x).toNat)
              case atStart => exact ⟨0, by omega, rfl, rfl, rfl, rfl, Below.refl _ _⟩
              case round =>
                obtain ⟨y, hy, rfl, rfl, rfl, how2, bi⟩ := hrel
                have HSA := Lib.hid (fun (h : y < t) => oneOf_at F sk (l := LV) (t := y) (by omega))
                have HSZ := Lib.hid (fun (h : y = t) => show oneOf F sk LV = oneOf F sk (LV.take y) by rw [List.take_of_length_le (by omega)])
                obtain ⟨s, hs⟩ : ∃ s, oneOf F sk (LV.take y) = s := ⟨_, rfl⟩
                rw [hs] at HSA HSZ how2 ⊢
                clear hs
                obtain ⟨ob, ov⟩ := s
                dsimp only at how2 ⊢
                have sX := bi.size
                by_cases hyl : y < t
                · have hyl' : (y : Int) < (t : Int) := by omega
                  have HSA := Lib.hid (HSA.out hyl)
                  clear HSZ HTS HVW
                  have lw := lI.below (bi.mono sIL)
                  obtain ⟨ba, offa, rfl, hba, hx⟩ := lw.at_ hyl
                  have hxw := lw.wf_at hyl
                  clear lw
                  have hx : wr.rangeAt ba (offa + y * 4) (LV.getD y R0).cells := hx
                  have hxw : (LV.getD y R0).wf := hxw
                  generalize LV.getD y R0 = x at hx hxw HSA
                  obtain ⟨xd, xk, xv, xs⟩ := x
                  have hx : wr.rangeAt ba (offa + y * 4) [.bool xd, .int .i64 xk, .int .i64 xv, .int .i64 xs] := hx
                  have hxv : (Lit.int .i64 xv).wf = true := hxw.2.1
                  have hba2 : ba < wr.heap.size := by omega
                  by_cases hk : xk = sk
                  · have HKK := Lib.hid (show decide (xk ≠ sk) = false by simpa using hk)
                    have HKE := Lib.hid hk
                    clear hk
                    cases ob with
                    | true =>
                      have HNX := Lib.hid (show oneS F sk (true, ov) ⟨xd, xk, xv, xs⟩ = (true, F ov xv) by rw [oneS, if_pos (by dsimp only; exact HKE.out)]; rfl)
                      go_wp2_with (first
                        | (refine on 114 ?_; refine wpList_run (w := wr) rfl (v := .pointer (some ⟨ba, offa + y * 4, none⟩)) (Held.y_addr (S := fun _ => True) rfl rfl rfl (Rs.run_addr_of (P := Tryd.prog) 48 51 ba offa t cv y 4 .i64 Tryd.underlying48 (by kernel_rfl) hyl) _ trivial) ?_)
                        | (refine on 115 ?_; refine wpList_run (w := wr) rfl (v := .pointer (some ⟨ba, offa + y * 4 + 1, none⟩)) (Held.y_field (S := fun _ => True) (k := 1) (s := 0) rfl rfl Tryd.underlying51 rfl (by kernel_rfl) rfl _ trivial) ?_)
                        | (refine on 116 ?_; refine wpList_run (w := wr) rfl (v := .int .i64 xk) (Held.y_load (S := fun W => W = wr) rfl rfl (by kernel_rfl) (fun W hW => by rw [hW]; exact hx 1 _ rfl) _ rfl) ?_)
                        | (refine on 118 ?_; refine wpList_run (w := wr) rfl (v := .bool false) (Held.y_neI (S := fun _ => True) rfl rfl rfl HKK.out _ trivial) ?_))
                      refine wp_region_held (S := fun W => Below wr.heap.size wr W) (by kernel_rfl) ?_
                      change wpAnyH _ _ _ _ _ _ _ _ wr.drew
                      have c0 := (Below.refl wr.heap.size wr).drew
                      refine Held.tk (v := .agg #[.int .i64 (K : Int), .slice A1 n1 c1, .slice A2 n2 c2, .slice A3 n3 c3]) 0 (some 120) rfl (Held.y_load_blk (n := 4) rfl rfl Tryd.underlying26 rfl info_prog rfl (fun W hW => qI.after (bi.trans (hW.mono sX)))) c0 ?_
                      simp only [Act.put, Z1, Z2, Z3]
                      refine Held.tk (v := .int .i64 ov) 1 (some 121) rfl (Held.y_move rfl rfl) c0 ?_
                      simp only [Act.put, Z1, Z2, Z3]
                      refine Held.tk (v := .slice (some ⟨ba, offa, none⟩) t cv) 2 (some 122) rfl (Held.y_move rfl rfl) c0 ?_
                      simp only [Act.put, Z1, Z2, Z3]
                      refine Held.tk (v := .int .i64 (y : Int)) 3 (some 123) rfl (Held.y_move rfl rfl) c0 ?_
                      simp only [Act.put, Z1, Z2, Z3]
                      refine Held.tk (v := .pointer (some ⟨ba, offa + y * 4, none⟩)) 4 (some 124) rfl (Held.y_addr rfl rfl rfl (Rs.run_addr_of (P := Tryd.prog) 48 51 ba offa t cv y 4 .i64 Tryd.underlying48 (by kernel_rfl) hyl)) c0 ?_
                      simp only [Act.put, Z1, Z2, Z3]
                      refine Held.tk (v := .pointer (some ⟨ba, offa + y * 4 + 2, none⟩)) 5 (some 125) rfl (Held.y_field (k := 2) (s := 0) rfl rfl Tryd.underlying51 rfl (by kernel_rfl) rfl) c0 ?_
                      simp only [Act.put, Z1, Z2, Z3]
                      refine Held.tk (v := .int .i64 xv) 6 (some 126) rfl (Held.y_load rfl rfl (by kernel_rfl) (fun X hX => range_below hx hX hba2 2 _ rfl)) c0 ?_
                      simp only [Act.put, Z1, Z2, Z3]
                      have bX := bi.trans (c0.mono sX)
                      refine Held.one 7 (by kernel_rfl) ?_
                      refine Held.op_call 7 (some 127) 24 #[.agg #[.int .i64 (K : Int), .slice A1 n1 c1, .slice A2 n2 c2, .slice A3 n3 c3], .int .i64 ov, .int .i64 xv] rfl rfl rfl rfl (enters_of Tryd.func24 (by kernel_rfl) rfl) (by simp [Act.eval])
                        (rfold_any B (K : Int) A1 A2 A3 n1 c1 n2 c2 n3 c3 m f fi ov xv _ how2 hxv (M1.below (bX.mono hBC)) (M2.below (bX.mono hBC)) (M3.below (bX.mono hBC)) (Nat.le_trans hBC bX.size) l1 l2 l3) ?_
                      rintro e w5 ⟨rfl, f1⟩
                      have c1 := c0.trans (f1.mono c0.size)
                      refine ⟨_, rfl, c1, ?_⟩
                      simp only [Act.put, Z1, Z2, Z3]
                      refine Held.tk (v := .int .i64 (foldV (K : Int) m f fi ov xv)) 8 (some 19) rfl (Held.y_assign rfl rfl) c1 ?_
                      simp only [Act.put, Z1, Z2, Z3]
                      refine wpAnyH_done (by kernel_rfl) ?_ _
                      have bi := bi.trans (c1.mono sX)
                      have hwz := HFW.out ov xv how2 hxv
                      rw [HF.out] at hwz ⊢
                      go_wp2_with fail
                      go_roundw
                      case rel => exact ⟨y + 1, by omega, by go_num, by rw [HSA.out, HNX.out], by rw [HSA.out, HNX.out], by rw [HSA.out, HNX.out]; exact hwz, bi⟩
                      case measure => simp [intOf]; omega
                    | false =>
                      have HNX := Lib.hid (show oneS F sk (false, ov) ⟨xd, xk, xv, xs⟩ = (true, xv) by rw [oneS, if_pos (by dsimp only; exact HKE.out)]; rfl)
                      go_wp2_with (first
                        | (refine on 114 ?_; refine wpList_run (w := wr) rfl (v := .pointer (some ⟨ba, offa + y * 4, none⟩)) (Held.y_addr (S := fun _ => True) rfl rfl rfl (Rs.run_addr_of (P := Tryd.prog) 48 51 ba offa t cv y 4 .i64 Tryd.underlying48 (by kernel_rfl) hyl) _ trivial) ?_)
                        | (refine on 115 ?_; refine wpList_run (w := wr) rfl (v := .pointer (some ⟨ba, offa + y * 4 + 1, none⟩)) (Held.y_field (S := fun _ => True) (k := 1) (s := 0) rfl rfl Tryd.underlying51 rfl (by kernel_rfl) rfl _ trivial) ?_)
                        | (refine on 116 ?_; refine wpList_run (w := wr) rfl (v := .int .i64 xk) (Held.y_load (S := fun W => W = wr) rfl rfl (by kernel_rfl) (fun W hW => by rw [hW]; exact hx 1 _ rfl) _ rfl) ?_)
                        | (refine on 118 ?_; refine wpList_run (w := wr) rfl (v := .bool false) (Held.y_neI (S := fun _ => True) rfl rfl rfl HKK.out _ trivial) ?_))
                      refine wp_region_held (S := fun W => Below wr.heap.size wr W) (by kernel_rfl) ?_
                      change wpAnyH _ _ _ _ _ _ _ _ wr.drew
                      have c0 := (Below.refl wr.heap.size wr).drew
                      refine Held.tk (v := .slice (some ⟨ba, offa, none⟩) t cv) 0 (some 128) rfl (Held.y_move rfl rfl) c0 ?_
                      simp only [Act.put, Z1, Z2, Z3]
                      refine Held.tk (v := .int .i64 (y : Int)) 1 (some 129) rfl (Held.y_move rfl rfl) c0 ?_
                      simp only [Act.put, Z1, Z2, Z3]
                      refine Held.tk (v := .pointer (some ⟨ba, offa + y * 4, none⟩)) 2 (some 130) rfl (Held.y_addr rfl rfl rfl (Rs.run_addr_of (P := Tryd.prog) 48 51 ba offa t cv y 4 .i64 Tryd.underlying48 (by kernel_rfl) hyl)) c0 ?_
                      simp only [Act.put, Z1, Z2, Z3]
                      refine Held.tk (v := .pointer (some ⟨ba, offa + y * 4 + 2, none⟩)) 3 (some 131) rfl (Held.y_field (k := 2) (s := 0) rfl rfl Tryd.underlying51 rfl (by kernel_rfl) rfl) c0 ?_
                      simp only [Act.put, Z1, Z2, Z3]
                      refine Held.tk (v := .int .i64 xv) 4 (some 132) rfl (Held.y_load rfl rfl (by kernel_rfl) (fun X hX => range_below hx hX hba2 2 _ rfl)) c0 ?_
                      simp only [Act.put, Z1, Z2, Z3]
                      refine Held.tk (v := .bool true) 5 (some 18) rfl (Held.y_assign rfl rfl) c0 ?_
                      simp only [Act.put, Z1, Z2, Z3]
                      refine Held.tk (v := .int .i64 xv) 6 (some 19) rfl (Held.y_assign rfl rfl) c0 ?_
                      simp only [Act.put, Z1, Z2, Z3]
                      refine wpAnyH_done (by kernel_rfl) ?_ _
                      have bi := bi.trans (c0.mono sX)
                      have hwz := hxv
                      go_wp2_with fail
                      go_roundw
                      case rel => exact ⟨y + 1, by omega, by go_num, by rw [HSA.out, HNX.out], by rw [HSA.out, HNX.out], by rw [HSA.out, HNX.out]; exact hwz, bi⟩
                      case measure => simp [intOf]; omega
                  · have HKK := Lib.hid (show decide (xk ≠ sk) = true by simpa using hk)
                    have HNX := Lib.hid (show oneS F sk (ob, ov) ⟨xd, xk, xv, xs⟩ = (ob, ov) by rw [oneS, if_neg (by dsimp only; exact hk)])
                    clear hk
                    go_wp2_with (first
                      | (refine on 114 ?_; refine wpList_run (w := wr) rfl (v := .pointer (some ⟨ba, offa + y * 4, none⟩)) (Held.y_addr (S := fun _ => True) rfl rfl rfl (Rs.run_addr_of (P := Tryd.prog) 48 51 ba offa t cv y 4 .i64 Tryd.underlying48 (by kernel_rfl) hyl) _ trivial) ?_)
                      | (refine on 115 ?_; refine wpList_run (w := wr) rfl (v := .pointer (some ⟨ba, offa + y * 4 + 1, none⟩)) (Held.y_field (S := fun _ => True) (k := 1) (s := 0) rfl rfl Tryd.underlying51 rfl (by kernel_rfl) rfl _ trivial) ?_)
                      | (refine on 116 ?_; refine wpList_run (w := wr) rfl (v := .int .i64 xk) (Held.y_load (S := fun W => W = wr) rfl rfl (by kernel_rfl) (fun W hW => by rw [hW]; exact hx 1 _ rfl) _ rfl) ?_)
                      | (refine on 118 ?_; refine wpList_run (w := wr) rfl (v := .bool true) (Held.y_neI (S := fun _ => True) rfl rfl rfl HKK.out _ trivial) ?_))
                    go_roundw
                    case rel => exact ⟨y + 1, by omega, by go_num, by rw [HSA.out, HNX.out], by rw [HSA.out, HNX.out], by rw [HSA.out, HNX.out]; exact how2, bi⟩
                    case measure => simp [intOf]; omega
                · obtain rfl : y = t := by omega
                  have HO := HSZ.out rfl
                  rw [HO] at HTS HVW
                  dsimp only at HTS HVW
                  have oi := OwnL.below ow bi
                  have bW := bC.trans (bi.mono sIL)
                  have hfew : no + 1 ≤ y := by have := HTS.out.few; rw [List.length_append, List.length_singleton, hol, hnv] at this; omega
                  have sW := bW.size
                  go_wp2_with (first
                    | (refine on 136 ?_; refine wpList_build_blk rfl 39 _ rfl #[.int .i64 sk, .int .i64 ov] (by kernel_rfl) ?_)
                    | (refine on 137 ?_; refine wpList_build_lst (k := kP) (w := wr) rfl 29 39 1 _ rfl Tryd.underlying29 _ 16 info_kP rfl [(sk, ov)] rfl (by kernel_rfl) (by omega) (by decide) ?_; intro w6 q6 g6 z6; have b6 := (Below.refl wr.heap.size wr).grown g6 (Nat.le_refl _) (by simp); have o6 := OwnL.below oi b6; have b6 := bW.trans (b6.mono sW); have l6 : Lst kP w6 w6.heap.size (some ⟨wr.heap.size, 0, none⟩) 1 [(sk, ov)] := lst_whole q6 rfl (fun x hx => by rw [List.mem_singleton.1 hx]; exact ⟨HSK.out, HVW.out⟩))
                    | (refine on 138 ?_; refine wpList_append_all (k := kP) (w := w6) rfl _ _ 29 39 rfl Tryd.underlying29 _ 16 info_kP rfl wL.heap.size w6.heap.size 1 1 (some ⟨wr.heap.size, 0, none⟩) (.slice Ao no co) out [(sk, ov)] rfl rfl o6 l6 (by rw [hol]; omega) (by omega) (Nat.le_trans sW g6.size) ?_; intro V w7 o7 g7 me7; obtain ⟨A7, n7, c7, rfl, hn7, _⟩ := OwnL.form2 o7; have b7 := b6.grown g7 b6.size (fun r e => (OwnL.lt o6 r e).1)))
                  have hn7' : no + 1 = n7 := by rw [← hn7.out, List.length_append, List.length_singleton, hol]
                  subst hn7'
                  have hwT := told_wf (F := F) how HSK.out HVW.out
                  have HTS2 := HTS.out
                  rw [← (funext fun a => funext fun v => HF.out a v : foldV (K : Int) m f fi = F)] at HTS2
                  go_roundw
                  case rel => exact ⟨no + 1, A7, c7, _, rfl, o7, hwT, HTS2, b7⟩
                  case measure => simp [nOf]; omega
end Go.Proofs.YtlinmcgmkpkpaaaDoor.Pi
