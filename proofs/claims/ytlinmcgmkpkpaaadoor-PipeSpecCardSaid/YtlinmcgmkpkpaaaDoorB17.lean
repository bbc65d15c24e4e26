/-
  Package chain's Step by its contract, of a program that may be.
  Package pipe's folded by its contract: the blocks folded one behind the other, each sorted by Key alone.
  slices.Repeat of one record, up to a thousand times, by its contract.
-/
import Derived.Test.YtlinmcgmkpkpaaaDoorB15
import Derived.Test.YtlinmcgmkpkpaaaDoorB13
import Derived.Test.YtlinmcgmkpkpaaaDoorB6
set_option linter.unusedVariables false
namespace Go.Proofs.YtlinmcgmkpkpaaaDoor.Cn
open Go.RowKit Go.Shelf Go.Proofs.YtlinmcgmkpkpaaaDoor Mem Held Go.Proofs.YtlinmcgmkpkpaaaDoor.Range Ct Rc Rs Sl Vm Mg
attribute [local go_sem] Oper.semAt_some
attribute [local irreducible] wpList wpListIn Calls
set_option maxRecDepth 100000 in
set_option maxHeartbeats 16000000 in
theorem step_any (B B2 : Nat) (K : Int) (A1 A2 A3 A : Option Addr) (n1 c1 n2 c2 n3 c3 n c : Nat) (m f fi : List O) (co : R) (rs : List R) (w : World) (h1 : Lst kO w B A1 n1 m) (h2 : Lst kO w B A2 n2 f) (h3 : Lst kO w B A3 n3 fi) (hl : Lst kRec w B2 A n rs) (hB : B ≤ w.heap.size) (hB2 : B2 ≤ w.heap.size) (hn : n ≤ 524288) (hC : checkB K m f fi = true) (hco : co.wf) :
    Calls Tryd.prog 59 #[.agg #[.int .i64 K, .slice A1 n1 c1, .slice A2 n2 c2, .slice A3 n3 c3], .agg #[.bool co.d, .int .i64 co.k, .int .i64 co.v, .int .i64 co.s], .slice A n c] w fun e w' => ∃ v, e = .returned (.tuple #[v, .agg #[.bool (ends (foldV K m f fi) (bareR co) rs).d, .int .i64 (ends (foldV K m f fi) (bareR co) rs).k, .int .i64 (ends (foldV K m f fi) (bareR co) rs).v, .int .i64 (ends (foldV K m f fi) (bareR co) rs).s]]) ∧ OwnL kRec 51 w' w.heap.size v (outs (foldV K m f fi) (finishV K m f fi) (bareR co) rs) ∧ Below w.heap.size w w' := by
  have HCE := Lib.hid (show checkE K m f fi = 0 by rw [checkE, if_pos hC])
  have HFW := Lib.hid (fun a b ha hb => Sp.foldV_wf (K := K) (m := m) (e := fi) h2.2.1 a b ha hb)
  have HGW := Lib.hid (fun a b ha hb => Sp.finishV_wf (K := K) (m := m) (f := f) h3.2.1 a b ha hb)
  have HNL := Lib.hid (show (num 0 (co :: rs)).length = n + 1 by rw [num_length, List.length_cons, hl.1])
  have HNW := Lib.hid (show ∀ x ∈ num 0 (co :: rs), x.2.wf from fun x hx => by
    rcases List.mem_cons.1 (num_mem 0 _ x hx) with e | h
    · rw [e]; exact hco
    · exact hl.2.1 _ h)
  obtain ⟨i0, hi0, hz0, hsb⟩ := info_parts info_kRec
  clear hC
  refine (callsIn_wide (n := 3)).1 ?_
  refine callsIn_of_wp_marks Tryd.func59 rfl trivial ?_ rfl
  simp only [Tryd.ntmps59, List.size_toArray, List.length_cons, List.length_nil, Nat.reduceAdd, Nat.reduceSub, Array.replicate_succ, Array.replicate_zero, List.push_toArray, List.append_toArray, List.nil_append, List.cons_append]
  refine wpIn_wide.2 ?_
  go_wp2_with (first
    | (refine wpList_box_blk (w := w) rfl 26 _ rfl #[.int .i64 K, .slice A1 n1 c1, .slice A2 n2 c2, .slice A3 n3 c3] rfl ?_; intro u1 q1 g1 z1)
    | (refine wpList_box_blk (w := u1) rfl 51 _ rfl #[.bool co.d, .int .i64 co.k, .int .i64 co.v, .int .i64 co.s] rfl ?_; intro u2 q2 g2 z2)
    | (refine wpList_alloc_blk (w := u2) rfl 51 rfl _ zero_rec ?_; intro u3 q3 g3 z3))
  have b3 : Below w.heap.size w u3 := (((Below.refl _ w).grown g1 (Nat.le_refl _) (by simp)).grown g2 g1.size (by simp)).grown g3 (Nat.le_trans g1.size g2.size) (by simp)
  have l1 : w.heap.size < u1.heap.size := q1.lt
  have l2 : u1.heap.size < u2.heap.size := q2.lt
  have l3 : u2.heap.size < u3.heap.size := q3.lt
  have q1 := (q1.grown g2 (by simp)).grown g3 (by simp)
  have q2 := q2.grown g3 (by simp)
  clear g1 g2 g3 z1 z2 z3
  refine wp_scope_straight ?_
  go_wp2_with fail
  refine (dead_any _).mono ?_
  rintro e u4 ⟨rfl, b4⟩
  have q1 := q1.after b4
  have q2 := q2.after b4
  have q3 := q3.after b4
  have l4 := b4.size
  have b4 := b3.trans (b4.mono b3.size)
  go_wp2_with (first
    | (refine wpList_alloc_blk (w := u4) rfl 51 rfl _ zero_rec ?_; intro u5 q5 g5 z5; have q1 := q1.grown g5 (by simp))
    | (refine wpList_store_blk (w := u5) rfl 51 _ _ rfl u4.heap.size 4 rfl 51 _ #[.bool true, .int .i64 0, .int .i64 0, .int .i64 0] rfl q5 info_rec rfl rfl (by kernel_rfl) ?_; intro u6 q6 g6 z6; have q1 := q1.grown g6 (by intro e; injection e with e; omega))
    | (refine wpList_load_blk (w := u6) rfl 26 _ rfl w.heap.size 4 rfl 26 _ q1 _ Tryd.underlying26 rfl info_prog rfl ?_))
  have l5 : u4.heap.size < u5.heap.size := q5.lt
  have q2 := (q2.grown g5 (by simp)).grown g6 (by intro e; injection e with e; omega)
  have q3 := (q3.grown g5 (by simp)).grown g6 (by intro e; injection e with e; omega)
  have b6 : Below w.heap.size w u6 := (b4.grown g5 b4.size (by simp)).grown g6 (by have := g5.size; omega) (fun r e => by cases e; omega)
  have l6 := g6.size
  clear g5 g6 q5 z5 z6 b4 b3
  refine (check_any B K A1 A2 A3 n1 c1 n2 c2 n3 c3 m f fi u6 (h1.below (b6.mono hB)) (h2.below (b6.mono hB)) (h3.below (b6.mono hB)) (Nat.le_trans hB b6.size)).mono ?_
  rintro e u7 ⟨rfl, b7⟩
  rw [HCE.out]
  have q1 := q1.after b7
  have q2 := q2.after b7
  have q3 := q3.after b7
  have q6 := q6.after b7
  have l7 := b7.size
  have b7 := b6.trans (b7.mono b6.size)
  clear b6
  go_wp2_with (first
    | (refine wpList_make_own u7 rfl _ _ 48 rfl u7.heap.size 51 i0 (.agg #[.bool false, .int .i64 0, .int .i64 0, .int .i64 0]) 4 Tryd.underlying48 hi0 hz0 hsb.1 .i64 .i64 _ n rfl rfl rfl (by rw [hsb.2]; omega) (by unfold maxLen; omega) (Nat.le_refl _) ?_; intro u8 o8 g8; have o8 : OwnL kRec 51 u8 u7.heap.size (.slice (some ⟨u7.heap.size, 0, none⟩) 0 n) [] := o8)
    | (refine wpList_alloc_cell (w := u8) rfl 48 rfl _ zero_recs rfl ?_; intro u9 q9 g9 z9)
    | (refine wpList_store_box (w := u9) rfl 48 _ _ rfl u8.heap.size rfl 48 _ (.slice (some ⟨u7.heap.size, 0, none⟩) 0 n) rfl q9 (by kernel_rfl) rfl rfl ?_; intro u10 q10 g10))
  apply wp_label
  have l8 : u7.heap.size < u8.heap.size := (o8.lt _ rfl).2
  have l9 : u8.heap.size < u9.heap.size := (Array.getElem?_eq_some_iff.1 q9).1
  have l10 := g10.size
  have ho : Ord w u2.heap.size u4.heap.size u8.heap.size u7.heap.size := ⟨by omega, by omega, by omega, by omega⟩
  have n10 : ∀ b, b < u8.heap.size → some b ≠ some u8.heap.size := fun b hb e => by injection e with e; omega
  have b10 : Below w.heap.size w u10 := ((b7.grown g8 b7.size (by simp)).grown g9 (by omega) (by simp)).grown g10 (by omega) (fun r e => by cases e; omega)
  have H0 : NS w u2.heap.size u4.heap.size u8.heap.size u7.heap.size #[.int .i64 K, .slice A1 n1 c1, .slice A2 n2 c2, .slice A3 n3 c3] (.slice (some ⟨u7.heap.size, 0, none⟩) 0 n) [] RD u10 :=
    ⟨q10, (o8.kept g9 (by simp [Value.ownBlock])).kept g10 (.inr (n10 _ l8)), ((q6.grown g8 (by simp)).grown g9 (by simp)).grown g10 (n10 _ (by omega)), ((q3.grown g8 (by simp)).grown g9 (by simp)).grown g10 (n10 _ (by omega)), ((q1.grown g8 (by simp)).grown g9 (by simp)).grown g10 (n10 _ (by omega)), b10⟩
  have q2 := ((q2.grown g8 (by simp)).grown g9 (by simp)).grown g10 (n10 _ (by omega))
  clear q1 q3 q6 o8 q9 q10 g8 g9 g10 z9 b7 n10 hi0 hz0 hsb
  go_wp2_with (refine wpList_load_blk (w := u10) rfl 51 _ rfl u1.heap.size 4 rfl 51 _ q2 _ Tryd.underlying51 rfl info_rec rfl ?_)
  refine (behind_any co A n c u10).mono ?_
  rintro e u11 ⟨bi, bl, rfl, qi, ql, hbi, hbl, b11⟩
  have hbi3 := qi.lt
  have hbl3 := ql.lt
  have hlo : u8.heap.size ≠ bi ∧ u8.heap.size ≠ bl := ⟨by omega, by omega⟩
  have l11 := b11.size
  have H0 := H0.after b11
  have b12 := b10.trans (b11.mono b10.size)
  have hit := fun N => behind_give N bi bl (fun b => b = u4.heap.size ∨ (u7.heap.size ≤ b ∧ b ≠ bi ∧ b ≠ bl)) B2 co A n c rs u11 qi ql (fun e => e.elim (fun e => by omega) (fun e => e.2.1 rfl)) (fun e => e.elim (fun e => by omega) (fun e => e.2.2 rfl)) (hl.below (b12.mono hB2)) (fun b hb e => e.elim (fun e => by omega) (fun e => by have := e.1; omega)) (by omega) (by omega)
  clear qi ql q2 b10 b11 hl
  go_wp2_with fail
  refine (wpIn_wide (n := 3)).1 ?_
  refine wpIn_rangeFunc_give rfl (by omega) (gf := 92) (lb := #[.pointer (some ⟨bi, 0, none⟩), .pointer (some ⟨bl, 0, none⟩)]) rfl trivial (enters_of Tryd.func92 (by kernel_rfl) rfl)
    (hit _) (fun h k => h.trans k) (fun W l o o' hl ho hc _ => Only.put W l o o' ho hc) (Below.refl _ _) (fun x B W args hx => by cases hx; rfl)
    (fun pre W => ∃ v, (NS w u2.heap.size u4.heap.size u8.heap.size u7.heap.size #[.int .i64 K, .slice A1 n1 c1, .slice A2 n2 c2, .slice A3 n3 c3] v (foldN (foldV K m f fi) (finishV K m f fi) pre).2 (foldN (foldV K m f fi) (finishV K m f fi) pre).1 W ∧ v.ownBlock ≠ some bi) ∧ v.ownBlock ≠ some bl) ?hi ⟨_, ⟨H0, fun e => by have e : some u7.heap.size = some bi := e; injection e with e; omega⟩, fun e => by have e : some u7.heap.size = some bl := e; injection e with e; omega⟩
    (fun x a' pre W => ∃ v, ((NS w u2.heap.size u4.heap.size u8.heap.size u7.heap.size #[.int .i64 K, .slice A1 n1 c1, .slice A2 n2 c2, .slice A3 n3 c3] v (foldN (foldV K m f fi) (finishV K m f fi) pre).2 (foldN (foldV K m f fi) (finishV K m f fi) pre).1 W ∧ v.ownBlock ≠ some bi) ∧ v.ownBlock ≠ some bl) ∧ ∃ p, u11.heap.size ≤ p ∧ v.ownBlock ≠ some p ∧ Blk W p 51 #[.bool x.2.d, .int .i64 x.2.k, .int .i64 x.2.v, .int .i64 x.2.s] ∧ a' = { tmps := #[.agg #[.int .i64 K, .slice A1 n1 c1, .slice A2 n2 c2, .slice A3 n3 c3], .agg #[.bool co.d, .int .i64 co.k, .int .i64 co.v, .int .i64 co.s], .slice A n c, .pointer (some ⟨w.heap.size, 0, none⟩), .pointer (some ⟨u1.heap.size, 0, none⟩), undef, .slice none 0 0, .pointer (some ⟨u2.heap.size, 0, none⟩), .pointer (some ⟨u4.heap.size, 0, none⟩), .pointer (some ⟨u8.heap.size, 0, none⟩), .int .i64 (x.1 : Int), .pointer (some ⟨p, 0, none⟩), undef, .agg #[.bool true, .int .i64 0, .int .i64 0, .int .i64 0], .agg #[.int .i64 K, .slice A1 n1 c1, .slice A2 n2 c2, .slice A3 n3 c3], .int .i64 0, .bool false, undef, .slice A n c, .int .i64 (n : Int), .slice (some ⟨u7.heap.size, 0, none⟩) 0 n, .agg #[.bool co.d, .int .i64 co.k, .int .i64 co.v, .int .i64 co.s], .slice A n c, .func (.func 92) #[] #[.pointer (some ⟨bi, 0, none⟩), .pointer (some ⟨bl, 0, none⟩)], .int .i64 (x.1 : Int), .agg #[.bool x.2.d, .int .i64 x.2.k, .int .i64 x.2.v, .int .i64 x.2.s], undef, undef, undef, undef, undef, undef, undef, undef, undef, undef, undef, undef, undef, undef, undef, undef, undef, undef, undef, undef, undef, undef, undef, undef, undef, undef], defers := [] }) ?ib ?assign ?body ?done
  case hi =>
    rintro pre W W' row ⟨v, ⟨h, k1⟩, k2⟩ hg hr
    exact ⟨v, ⟨h.from (by omega) hg hr, k1⟩, k2⟩
  case ib =>
    rintro x a' pre W W' row ⟨v, ⟨⟨h, k1⟩, k2⟩, p, hp, np, qp, h7⟩ hgr hrow
    exact ⟨v, ⟨⟨h.from (by omega) hgr hrow, k1⟩, k2⟩, p, hp, np, blk_own qp hgr hrow, h7⟩
  case assign =>
    rintro l pre x args W0 W K ⟨v, ⟨h, k1⟩, k2⟩ hg rfl hpre hsz hK
    obtain ⟨i, x⟩ := x
    simp only [Held.zip_two, List.setIfInBounds_toArray, List.set_cons_zero, List.set_cons_succ]
    dsimp only at hK ⊢
    gi_wp2_with (first
      | (refine Held.wpListIn_one (r := some l) rfl (by intro c e; cases e) ?_; refine wpList_alloc_blk (w := W) rfl 51 rfl _ zero_rec ?_; intro v2 q2 g2 z2; refine wpList_nil ⟨rfl, ?_⟩)
      | (refine Held.wpListIn_one (r := some l) rfl (by intro c e; cases e) ?_; refine wpList_store_blk (w := v2) rfl 51 _ _ rfl W.heap.size 4 rfl 51 _ #[.bool x.d, .int .i64 x.k, .int .i64 x.v, .int .i64 x.s] rfl q2 info_rec rfl rfl (by kernel_rfl) ?_; intro v3 q3 g3 z3; refine wpList_nil ⟨rfl, ?_⟩))
    have b3' : Below W.heap.size W v3 := ((Below.refl _ W).grown g2 (Nat.le_refl _) (by simp)).grown g3 g2.size (fun r e => by cases e; exact Nat.le_refl _)
    have h3 := h.grown (Lib.grownBy_trans hg (grown_of_below b3' none)) (by simp) (by simp) (by simp) (by simp) (by cases v.ownBlock <;> simp) (fun r e => by cases e)
    exact hK _ _ ((Held.others_of_new g2).trans (Held.others_of_grown q2 g3)) (Only.of_below b3') ⟨v, ⟨⟨h3, k1⟩, k2⟩, W.heap.size, Nat.le_trans hsz hg.size, fun e => by have := (h.own.lt _ e).2; have := hg.size; omega, q3, rfl⟩
  case body =>
    rintro l pre ⟨i, x⟩ a' W ⟨v, ⟨⟨H, hvi⟩, hvl⟩, p, hp, np, qp, rfl⟩ hpre hsz
    dsimp only at qp hpre ⊢
    have hx : x.wf := HNW.out (i, x) (hpre.subset (by simp))
    obtain ⟨hso, how, hol⟩ := foldN_wf HFW.out HGW.out pre (RD, []) (fun y hy => HNW.out y (hpre.subset (by simp [hy]))) wf_dead (fun y hy => by cases hy)
    have hol : (foldN (foldV K m f fi) (finishV K m f fi) pre).2.length ≤ 524290 := by
      have e2 := hpre.length_le
      have e3 := HNL.out
      rw [List.length_append, e3] at e2
      simp only [List.length_nil, List.length_cons] at hol e2
      change (foldN (foldV K m f fi) (finishV K m f fi) pre).2.length ≤ _ at hol
      omega
    have hso : (foldN (foldV K m f fi) (finishV K m f fi) pre).1.wf := hso
    have how : ∀ y ∈ (foldN (foldV K m f fi) (finishV K m f fi) pre).2, y.wf := how
    have HNX := Lib.hid (foldN_snoc (F := (foldV K m f fi)) (G := (finishV K m f fi)) pre (i, x))
    generalize hst : foldN (foldV K m f fi) (finishV K m f fi) pre = st at H hso how hol HNX
    obtain ⟨so, out⟩ := st
    dsimp only at H hso how hol
    have hpW := qp.lt
    clear hst hpre
    by_cases hi0 : i = 0
    · have hdec : ((i : Int) == 0) = true := by simp; omega
      have hdec2 : decide (i = 0) = true := by simp; omega
      have hdec3 : decide ((i : Int) = 0) = true := by simp; omega
      have HNX := Lib.hid (HNX.out.trans (by rw [stepP, if_pos hi0]))
      clear hi0
      gi_wp2_with (refine Held.wpListIn_one (r := some l) rfl (by intro c e; cases e) ?_; refine wpList_load_blk (w := W) rfl 51 _ rfl p 4 rfl 51 _ qp _ Tryd.underlying51 rfl info_rec rfl ?_; refine wpList_nil ⟨rfl, ?_⟩)
      refine ⟨trivial, ?_⟩
      refine (CallsIn.inRound l (callsIn_wide.2 (bare_any x hx W))).mono ?_
      rintro e wa ⟨rfl, ba⟩
      have H := H.after ba
      gi_wp2_with (refine Held.wpListIn_one (r := some l) rfl (by intro c e; cases e) ?_; refine wpList_store_blk (w := wa) rfl 51 _ _ rfl u4.heap.size 4 rfl 51 _ #[.bool (bareR x).d, .int .i64 (bareR x).k, .int .i64 (bareR x).v, .int .i64 (bareR x).s] rfl H.so info_rec rfl rfl (by kernel_rfl) ?_; intro wb qb gb zb; refine wpList_nil ⟨rfl, ?_⟩)
      refine ⟨(Held.others_of_new (grown_of_below ba none)).trans (Held.others_of_grown H.so gb), (Only.of_below ba).trans (Only.of_grown gb (fun r ee => by cases ee; exact .inl rfl)), v, ⟨?_, hvi⟩, hvl⟩
      rw [HNX.out]
      exact H.next ho qb gb
    · have hdec : ((i : Int) == 0) = false := by simp; omega
      have hdec2 : decide (i = 0) = false := by simp; omega
      have hdec3 : decide ((i : Int) = 0) = false := by simp; omega
      have HNX := Lib.hid (HNX.out.trans (by rw [stepP, if_neg hi0]))
      clear hi0
      have hqs := H.so
      gi_wp2_with (first
        | (refine Held.wpListIn_one (r := some l) rfl (by intro c e; cases e) ?_; refine wpList_load_blk (w := W) rfl 51 _ rfl u4.heap.size 4 rfl 51 _ hqs _ Tryd.underlying51 rfl info_rec rfl ?_; refine wpList_nil ⟨rfl, ?_⟩)
        | (refine Held.wpListIn_one (r := some l) rfl (by intro c e; cases e) ?_; refine wpList_load_blk (w := W) rfl 51 _ rfl p 4 rfl 51 _ qp _ Tryd.underlying51 rfl info_rec rfl ?_; refine wpList_nil ⟨rfl, ?_⟩))
      refine ⟨trivial, ?_⟩
      refine (CallsIn.inRound l (callsIn_wide.2 (goes_any so x hso hx W))).mono ?_
      rintro e wa ⟨rfl, ba⟩
      have H := H.after ba
      have qp := qp.after ba
      have KO := Held.others_of_new (grown_of_below ba none)
      have U : Only (fun b => b = u4.heap.size ∨ (u7.heap.size ≤ b ∧ b ≠ bi ∧ b ≠ bl)) W wa := Only.of_below ba
      have hu7 : u7.heap.size ≤ W.heap.size := by omega
      clear ba hqs hdec hdec2 hdec3
      gi_wp2_with fail
      refine Held.wpIn_region_barR (r := some l) (s := 9) (T := fun X => X.heap[u8.heap.size]? = some (.cells #[v] 48 (0, 0)) ∧ Blk X w.heap.size 26 #[.int .i64 K, .slice A1 n1 c1, .slice A2 n2 c2, .slice A3 n3 c3] ∧ Blk X u4.heap.size 51 #[.bool so.d, .int .i64 so.k, .int .i64 so.v, .int .i64 so.s]) rfl (by kernel_rfl) (by kernel_rfl) (by intro a w h; exact h) ?_
      change wpAnyB _ _ _ _ _ _ _ _ _ wa.drew
      have D := (Below.refl wa.heap.size wa).drew
      have H := H.after D
      have qp := qp.after D
      have KO := KO.trans (Held.others_of_new (grown_of_below D none))
      have U := U.trans (Only.of_below D)
      clear D
      have T0 : wa.drew.heap[u8.heap.size]? = some (.cells #[v] 48 (0, 0)) ∧ Blk wa.drew w.heap.size 26 #[.int .i64 K, .slice A1 n1 c1, .slice A2 n2 c2, .slice A3 n3 c3] ∧ Blk wa.drew u4.heap.size 51 #[.bool so.d, .int .i64 so.k, .int .i64 so.v, .int .i64 so.s] := ⟨H.var, H.prog, H.so⟩
      refine Held.takeB (v := v) 0 (some 33) [9] rfl rfl (by kernel_rfl) (by kernel_rfl) (by kernel_rfl) (by kernel_rfl) (fun _ _ _ h => h) rfl (Held.y_load rfl rfl (by kernel_rfl) (fun X hX => cell_of_one hX.1)) T0 ?_
      simp only [Act.put, Z1, Z2, Z3]
      refine Held.takeB (v := .int .u64 (oneI (goesB so x))) 1 (some 34) [9] rfl rfl (by kernel_rfl) (by kernel_rfl) (by kernel_rfl) (by kernel_rfl) (fun _ _ _ h => h) rfl (Held.y_move rfl rfl) T0 ?_
      simp only [Act.put, Z1, Z2, Z3]
      refine Held.takeB (v := .agg #[.int .i64 K, .slice A1 n1 c1, .slice A2 n2 c2, .slice A3 n3 c3]) 3 (some 36) [9] rfl rfl (by kernel_rfl) (by kernel_rfl) (by kernel_rfl) (by kernel_rfl) (fun _ _ _ h => h) rfl (Held.y_load_blk (n := 4) rfl rfl Tryd.underlying26 rfl info_prog rfl (fun X hX => hX.2.1)) T0 ?_
      simp only [Act.put, Z1, Z2, Z3]
      refine Held.takeB (v := .agg #[.bool so.d, .int .i64 so.k, .int .i64 so.v, .int .i64 so.s]) 4 (some 37) [9] rfl rfl (by kernel_rfl) (by kernel_rfl) (by kernel_rfl) (by kernel_rfl) (fun _ _ _ h => h) rfl (Held.y_load_blk (n := 4) rfl rfl Tryd.underlying51 rfl info_rec rfl (fun X hX => hX.2.2)) T0 ?_
      simp only [Act.put, Z1, Z2, Z3]
      refine Held.oneB 2 (by kernel_rfl) ?_
      refine Held.op_call 2 (some 35) 56 #[] rfl rfl rfl rfl (enters_of Tryd.func56 (by kernel_rfl) rfl) (by simp)
        (dead_any _) ?_
      rintro e w1 ⟨rfl, b1⟩
      have H := H.after b1
      have qp := qp.after b1
      have KO := KO.trans (Held.others_of_new (grown_of_below b1 none))
      have U := U.trans (Only.of_below b1)
      refine ⟨_, rfl, fun _ => ⟨H.var, H.prog, H.so⟩, ?_⟩
      simp only [Act.put, Z1, Z2, Z3]
      clear b1
      refine Held.oneB 5 (by kernel_rfl) ?_
      refine Held.op_call 5 (some 38) 77 #[.agg #[.int .i64 K, .slice A1 n1 c1, .slice A2 n2 c2, .slice A3 n3 c3], .agg #[.bool so.d, .int .i64 so.k, .int .i64 so.v, .int .i64 so.s]] rfl rfl rfl rfl (enters_of Tryd.func77 (by kernel_rfl) rfl) (by simp [Act.eval])
        (finished_any B K A1 A2 A3 n1 c1 n2 c2 n3 c3 m f fi so hso _ (h1.below (H.below.mono hB)) (h2.below (H.below.mono hB)) (h3.below (H.below.mono hB)) (Nat.le_trans hB H.below.size)) ?_
      rintro e w2 ⟨rfl, b2⟩
      have H := H.after b2
      have qp := qp.after b2
      have KO := KO.trans (Held.others_of_new (grown_of_below b2 none))
      have U := U.trans (Only.of_below b2)
      refine ⟨_, rfl, fun _ => ⟨H.var, H.prog, H.so⟩, ?_⟩
      simp only [Act.put, Z1, Z2, Z3]
      clear b2
      refine Held.oneB 6 (by kernel_rfl) ?_
      refine Held.op_call 6 (some 39) 76 #[.int .u64 (oneI (goesB so x)), .agg #[.bool true, .int .i64 0, .int .i64 0, .int .i64 0], .agg #[.bool (finR (finishV K m f fi) so).d, .int .i64 (finR (finishV K m f fi) so).k, .int .i64 (finR (finishV K m f fi) so).v, .int .i64 (finR (finishV K m f fi) so).s]] rfl rfl rfl rfl (enters_of Tryd.func76 (by kernel_rfl) rfl) (by simp [Act.eval])
        (pick_rec (goesB so x) RD (finR (finishV K m f fi) so) (outR (finishV K m f fi) so x) rfl wf_dead (fin_wf HGW.out hso) _) ?_
      rintro e w3 ⟨rfl, b3⟩
      have H := H.after b3
      have qp := qp.after b3
      have KO := KO.trans (Held.others_of_new (grown_of_below b3 none))
      have U := U.trans (Only.of_below b3)
      refine ⟨_, rfl, fun _ => ⟨H.var, H.prog, H.so⟩, ?_⟩
      simp only [Act.put, Z1, Z2, Z3]
      clear b3
      refine Held.oneB 7 (by kernel_rfl) ?_
      refine op_build_lst (k := kRec) 7 (some 40) 48 51 1 _ 32 [outR (finishV K m f fi) so x] rfl rfl rfl rfl Tryd.underlying48 info_kRec rfl rfl (by kernel_rfl) (by omega) (by decide) ?_
      intro gq w4 qq b4 hq
      have H := H.after b4
      have qp := qp.after b4
      have KO := KO.trans (Held.others_of_new (grown_of_below b4 none))
      have U := U.trans (Only.of_below b4)
      refine ⟨fun _ => ⟨H.var, H.prog, H.so⟩, ?_⟩
      simp only [Act.put, Z1, Z2, Z3]
      clear b4
      have z4 : W.heap.size ≤ w4.heap.size := U.size
      have lq := lst_whole (k := kRec) (xs := [outR (finishV K m f fi) so x]) (n := 1) qq rfl (fun y hy => by rw [List.mem_singleton.1 hy]; exact out_wf HGW.out hso)
      refine Held.oneB 8 (by kernel_rfl) ?_
      refine op_append_all (k := kRec) 8 (some 41) 48 51 rfl rfl rfl rfl Tryd.underlying48 _ 32 info_kRec rfl u7.heap.size w4.heap.size 1 1 (some ⟨gq, 0, none⟩) v out [outR (finishV K m f fi) so x] rfl rfl H.own lq (by omega) (by omega) (Nat.le_trans hu7 U.size) ?_
      intro v5 w5 o5 g5 n5
      have np5 : v5.ownBlock ≠ some p := fun ee => by
        rcases n5 with n5 | n5
        · exact np (n5.symm.trans ee)
        · have e2 := n5.symm.trans ee; injection e2 with e2; have := qp.lt; omega
      have a5 := H.app ho o5 g5
      have qp5 := qp.grown g5 (fun ee => np ee.symm)
      have KO := KO.trans (others_ownL H.own g5)
      have U := U.trans (Only.of_grown g5 (fun r ee => .inr ⟨(H.own.lt _ ee).1, fun e2 => hvi (e2 ▸ ee), fun e2 => hvl (e2 ▸ ee)⟩))
      refine ⟨fun _ => ⟨a5.1, a5.2.2.2.1, a5.2.1⟩, ?_⟩
      simp only [Act.put, Z1, Z2, Z3]
      refine Held.oneB 9 (by kernel_rfl) ?_
      refine Held.op_store_box 9 none 48 u8.heap.size 48 _ v5 rfl rfl rfl rfl rfl rfl a5.1 (by kernel_rfl) (by obtain ⟨A5, c5, rfl, _⟩ := OwnL.form o5; rfl) (by obtain ⟨A5, c5, rfl, _⟩ := OwnL.form o5; rfl) ?_
      intro w6 l6 g6
      have qp := qp5.grown g6 (by intro ee; injection ee with ee; omega)
      have KO := KO.trans (Held.others_of_grown a5.1 g6)
      have U := U.trans (Only.of_grown g6 (fun r ee => by cases ee; exact .inr ⟨ho.o, hlo.1, hlo.2⟩))
      have H := H.put ho o5 g5 l6 g6
      have hvi5 : v5.ownBlock ≠ some bi := fun ee => by
        rcases n5 with n5 | n5
        · exact hvi (n5.symm.trans ee)
        · have e2 := n5.symm.trans ee; injection e2 with e2; omega
      have hvl5 : v5.ownBlock ≠ some bl := fun ee => by
        rcases n5 with n5 | n5
        · exact hvl (n5.symm.trans ee)
        · have e2 := n5.symm.trans ee; injection e2 with e2; omega
      refine ⟨(fun h => by cases h.symm.trans (show _ = true by kernel_rfl)), ?_⟩
      simp only [Act.put]
      refine doneB (by kernel_rfl) ?_ _
      gi_wp2_with fail
      generalize w6 = wb at *
      refine Held.wpIn_region_barR (r := some l) (s := 8) (T := fun X => Blk X w.heap.size 26 #[.int .i64 K, .slice A1 n1 c1, .slice A2 n2 c2, .slice A3 n3 c3] ∧ Blk X u4.heap.size 51 #[.bool so.d, .int .i64 so.k, .int .i64 so.v, .int .i64 so.s] ∧ Blk X p 51 #[.bool x.d, .int .i64 x.k, .int .i64 x.v, .int .i64 x.s]) rfl (by kernel_rfl) (by kernel_rfl) (by intro a w h; exact h) ?_
      change wpAnyB _ _ _ _ _ _ _ _ _ wb.drew
      have D := (Below.refl wb.heap.size wb).drew
      have H := H.after D
      have qp := qp.after D
      have KO := KO.trans (Held.others_of_new (grown_of_below D none))
      have U := U.trans (Only.of_below D)
      clear D
      have T0 : Blk wb.drew w.heap.size 26 #[.int .i64 K, .slice A1 n1 c1, .slice A2 n2 c2, .slice A3 n3 c3] ∧ Blk wb.drew u4.heap.size 51 #[.bool so.d, .int .i64 so.k, .int .i64 so.v, .int .i64 so.s] ∧ Blk wb.drew p 51 #[.bool x.d, .int .i64 x.k, .int .i64 x.v, .int .i64 x.s] := ⟨H.prog, H.so, qp⟩
      refine Held.takeB (v := .int .u64 (oneI (goesB so x))) 0 (some 42) [8] rfl rfl (by kernel_rfl) (by kernel_rfl) (by kernel_rfl) (by kernel_rfl) (fun _ _ _ h => h) rfl (Held.y_move rfl rfl) T0 ?_
      simp only [Act.put, Z1, Z2, Z3]
      refine Held.takeB (v := .agg #[.int .i64 K, .slice A1 n1 c1, .slice A2 n2 c2, .slice A3 n3 c3]) 1 (some 43) [8] rfl rfl (by kernel_rfl) (by kernel_rfl) (by kernel_rfl) (by kernel_rfl) (fun _ _ _ h => h) rfl (Held.y_load_blk (n := 4) rfl rfl Tryd.underlying26 rfl info_prog rfl (fun X hX => hX.1)) T0 ?_
      simp only [Act.put, Z1, Z2, Z3]
      refine Held.takeB (v := .agg #[.bool so.d, .int .i64 so.k, .int .i64 so.v, .int .i64 so.s]) 2 (some 44) [8] rfl rfl (by kernel_rfl) (by kernel_rfl) (by kernel_rfl) (by kernel_rfl) (fun _ _ _ h => h) rfl (Held.y_load_blk (n := 4) rfl rfl Tryd.underlying51 rfl info_rec rfl (fun X hX => hX.2.1)) T0 ?_
      simp only [Act.put, Z1, Z2, Z3]
      refine Held.takeB (v := .agg #[.bool x.d, .int .i64 x.k, .int .i64 x.v, .int .i64 x.s]) 3 (some 45) [8] rfl rfl (by kernel_rfl) (by kernel_rfl) (by kernel_rfl) (by kernel_rfl) (fun _ _ _ h => h) rfl (Held.y_load_blk (n := 4) rfl rfl Tryd.underlying51 rfl info_rec rfl (fun X hX => hX.2.2)) T0 ?_
      simp only [Act.put, Z1, Z2, Z3]
      refine Held.takeB (v := .agg #[.bool x.d, .int .i64 x.k, .int .i64 x.v, .int .i64 x.s]) 5 (some 47) [8] rfl rfl (by kernel_rfl) (by kernel_rfl) (by kernel_rfl) (by kernel_rfl) (fun _ _ _ h => h) rfl (Held.y_load_blk (n := 4) rfl rfl Tryd.underlying51 rfl info_rec rfl (fun X hX => hX.2.2)) T0 ?_
      simp only [Act.put, Z1, Z2, Z3]
      refine Held.oneB 4 (by kernel_rfl) ?_
      refine Held.op_call 4 (some 46) 78 #[.agg #[.int .i64 K, .slice A1 n1 c1, .slice A2 n2 c2, .slice A3 n3 c3], .agg #[.bool so.d, .int .i64 so.k, .int .i64 so.v, .int .i64 so.s], .agg #[.bool x.d, .int .i64 x.k, .int .i64 x.v, .int .i64 x.s]] rfl rfl rfl rfl (enters_of Tryd.func78 (by kernel_rfl) rfl) (by simp [Act.eval])
        (folded_one B K A1 A2 A3 n1 c1 n2 c2 n3 c3 m f fi so x hso hx _ (h1.below (H.below.mono hB)) (h2.below (H.below.mono hB)) (h3.below (H.below.mono hB)) (Nat.le_trans hB H.below.size)) ?_
      rintro e w7 ⟨rfl, b7⟩
      have H := H.after b7
      have qp := qp.after b7
      have KO := KO.trans (Held.others_of_new (grown_of_below b7 none))
      have U := U.trans (Only.of_below b7)
      refine ⟨_, rfl, fun _ => ⟨H.prog, H.so, qp⟩, ?_⟩
      simp only [Act.put, Z1, Z2, Z3]
      clear b7
      refine Held.oneB 6 (by kernel_rfl) ?_
      refine Held.op_call 6 (some 48) 74 #[.agg #[.bool x.d, .int .i64 x.k, .int .i64 x.v, .int .i64 x.s]] rfl rfl rfl rfl (enters_of Tryd.func74 (by kernel_rfl) rfl) (by simp [Act.eval])
        (bare_any x hx _) ?_
      rintro e w8 ⟨rfl, b8⟩
      have H := H.after b8
      have qp := qp.after b8
      have KO := KO.trans (Held.others_of_new (grown_of_below b8 none))
      have U := U.trans (Only.of_below b8)
      refine ⟨_, rfl, fun _ => ⟨H.prog, H.so, qp⟩, ?_⟩
      simp only [Act.put, Z1, Z2, Z3]
      clear b8
      refine Held.oneB 7 (by kernel_rfl) ?_
      refine Held.op_call 7 (some 49) 76 #[.int .u64 (oneI (goesB so x)), .agg #[.bool (joinR (foldV K m f fi) so x).d, .int .i64 (joinR (foldV K m f fi) so x).k, .int .i64 (joinR (foldV K m f fi) so x).v, .int .i64 (joinR (foldV K m f fi) so x).s], .agg #[.bool (bareR x).d, .int .i64 (bareR x).k, .int .i64 (bareR x).v, .int .i64 (bareR x).s]] rfl rfl rfl rfl (enters_of Tryd.func76 (by kernel_rfl) rfl) (by simp [Act.eval])
        (pick_rec (goesB so x) (joinR (foldV K m f fi) so x) (bareR x) (nextR (foldV K m f fi) so x) rfl ⟨hso.1, HFW.out _ _ hso.2.1 hx.2.1, rfl⟩ (bare_wf hx) _) ?_
      rintro e w9 ⟨rfl, b9⟩
      have H := H.after b9
      have qp := qp.after b9
      have KO := KO.trans (Held.others_of_new (grown_of_below b9 none))
      have U := U.trans (Only.of_below b9)
      refine ⟨_, rfl, fun _ => ⟨H.prog, H.so, qp⟩, ?_⟩
      simp only [Act.put, Z1, Z2, Z3]
      clear b9
      refine Held.oneB 8 (by kernel_rfl) ?_
      refine Held.op_store_blk 8 none 51 u4.heap.size 4 51 _ #[.bool (nextR (foldV K m f fi) so x).d, .int .i64 (nextR (foldV K m f fi) so x).k, .int .i64 (nextR (foldV K m f fi) so x).v, .int .i64 (nextR (foldV K m f fi) so x).s] rfl rfl rfl rfl rfl rfl H.so info_rec rfl rfl (by kernel_rfl) ?_
      intro w10 qs g10
      have KO := KO.trans (Held.others_of_grown H.so g10)
      have U := U.trans (Only.of_grown g10 (fun r ee => by cases ee; exact .inl rfl))
      have H := H.next ho qs g10
      refine ⟨(fun h => by cases h.symm.trans (show _ = true by kernel_rfl)), ?_⟩
      simp only [Act.put]
      refine doneB (by kernel_rfl) ?_ _
      gi_wp2_with fail
      refine ⟨KO, U, v5, ⟨?_, hvi5⟩, hvl5⟩
      rw [HNX.out]
      exact H
  case done =>
    rintro D W hD ⟨v, ⟨H, hvi⟩, hvl⟩ hDl
    rw [foldN_all] at H
    dsimp only at H
    obtain ⟨so, hso⟩ : ∃ so, ends (foldV K m f fi) (bareR co) rs = so := ⟨_, rfl⟩
    obtain ⟨out, hou⟩ : ∃ out, outs (foldV K m f fi) (finishV K m f fi) (bareR co) rs = out := ⟨_, rfl⟩
    rw [hso, hou] at H
    have HSO := Lib.hid hso
    have HOU := Lib.hid hou
    clear hso hou
    have hlD := (Array.getElem?_eq_some_iff.1 hDl).1
    go_wp2_with fail
    refine wp_mono (Q := fun e a' w' => e = .normal ∧ a' = { tmps := #[.agg #[.int .i64 K, .slice A1 n1 c1, .slice A2 n2 c2, .slice A3 n3 c3], .agg #[.bool co.d, .int .i64 co.k, .int .i64 co.v, .int .i64 co.s], .slice A n c, .pointer (some ⟨w.heap.size, 0, none⟩), .pointer (some ⟨u1.heap.size, 0, none⟩), undef, v, .pointer (some ⟨u2.heap.size, 0, none⟩), .pointer (some ⟨u4.heap.size, 0, none⟩), .pointer (some ⟨u8.heap.size, 0, none⟩), undef, undef, undef, .agg #[.bool true, .int .i64 0, .int .i64 0, .int .i64 0], .agg #[.int .i64 K, .slice A1 n1 c1, .slice A2 n2 c2, .slice A3 n3 c3], .int .i64 0, .bool false, undef, .slice A n c, .int .i64 (n : Int), .slice (some ⟨u7.heap.size, 0, none⟩) 0 n, .agg #[.bool co.d, .int .i64 co.k, .int .i64 co.v, .int .i64 co.s], .slice A n c, .func (.func 92) #[] #[.pointer (some ⟨bi, 0, none⟩), .pointer (some ⟨bl, 0, none⟩)], undef, undef, undef, undef, undef, undef, undef, undef, undef, undef, undef, undef, undef, undef, undef, undef, undef, undef, undef, undef, undef, undef, undef, undef, undef, undef, v, .agg #[.bool so.d, .int .i64 so.k, .int .i64 so.v, .int .i64 so.s]], defers := [{ target := .collected D, args := #[] }] } ∧ Blk w' u2.heap.size 51 #[.bool so.d, .int .i64 so.k, .int .i64 so.v, .int .i64 so.s] ∧ w'.heap[D]? = some (.deferred (some [])) ∧ OwnL kRec 51 w' u7.heap.size v out ∧ Below w.heap.size w w') ?_ ?_
    · refine Held.wp_region_bar (s := 3) (T := fun X => X.heap[u8.heap.size]? = some (.cells #[v] 48 (0, 0)) ∧ Blk X u4.heap.size 51 #[.bool so.d, .int .i64 so.k, .int .i64 so.v, .int .i64 so.s]) (by kernel_rfl) ?_
      change wpAnyB _ _ _ _ _ _ _ _ _ W.drew
      have DB := (Below.refl W.heap.size W).drew
      have H := H.after DB
      have d2 := (DB.block _ hlD).trans hDl
      have T0 : W.drew.heap[u8.heap.size]? = some (.cells #[v] 48 (0, 0)) ∧ Blk W.drew u4.heap.size 51 #[.bool so.d, .int .i64 so.k, .int .i64 so.v, .int .i64 so.s] := ⟨H.var, H.so⟩
      refine Held.takeB (v := v) 0 (some 50) [3] rfl rfl (by kernel_rfl) (by kernel_rfl) (by kernel_rfl) (by kernel_rfl) (fun _ _ _ h => by cases h.1) rfl (Held.y_load rfl rfl (by kernel_rfl) (fun X hX => cell_of_one hX.1)) T0 ?_
      simp only [Act.put, Z1, Z2, Z3]
      refine Held.takeB (v := .agg #[.bool so.d, .int .i64 so.k, .int .i64 so.v, .int .i64 so.s]) 1 (some 51) [3] rfl rfl (by kernel_rfl) (by kernel_rfl) (by kernel_rfl) (by kernel_rfl) (fun _ _ _ h => by cases h.1) rfl (Held.y_load_blk (n := 4) rfl rfl Tryd.underlying51 rfl info_rec rfl (fun X hX => hX.2)) T0 ?_
      simp only [Act.put, Z1, Z2, Z3]
      refine Held.takeB (v := v) 2 (some 6) [3] rfl rfl (by kernel_rfl) (by kernel_rfl) (by kernel_rfl) (by kernel_rfl) (fun _ _ _ h => by cases h.1) rfl (Held.y_assign rfl rfl) T0 ?_
      simp only [Act.put, Z1, Z2, Z3]
      refine Held.oneB 3 (by kernel_rfl) ?_
      refine Held.op_store_blk 3 none 51 u2.heap.size 4 51 _ #[.bool so.d, .int .i64 so.k, .int .i64 so.v, .int .i64 so.s] rfl rfl rfl rfl rfl rfl H.res info_rec rfl rfl (by kernel_rfl) ?_
      intro w2 qs g2
      have o2 : OwnL kRec 51 w2 u7.heap.size v out := H.own.kept g2 (.inr fun ee => by have := (H.own.lt _ ee).1; omega)
      have bz : Below w.heap.size w w2 := H.below.grown g2 H.below.size (fun r e => by cases e; omega)
      have d2 : w2.heap[D]? = some (.deferred (some [])) := (g2.block D (Nat.lt_of_lt_of_le hlD DB.size) (by intro e; injection e with e; omega)).trans d2
      refine ⟨(fun h => by cases h.symm.trans (show _ = true by kernel_rfl)), ?_⟩
      simp only [Act.put]
      refine doneB (by kernel_rfl) ?_ _
      exact ⟨rfl, rfl, qs, d2, o2, bz⟩
    rintro e a' w2 ⟨rfl, rfl, qs, d2, o2, bz⟩
    have hwD : u11.heap.size ≤ D := hD
    go_wp2_with fail
    refine ⟨by simp, .inl ⟨_, _, rfl, run_takeDeferred d2, ?_⟩⟩
    refine ⟨_, results_tmp_blk rfl _ _ u2.heap.size 4 _ #[.bool so.d, .int .i64 so.k, .int .i64 so.v, .int .i64 so.s] v rfl rfl (qs.grown (grownBy_putObj' _ D _) ?_) _ Tryd.underlying51 rfl info_rec rfl, ?_⟩
    · intro e; injection e with e; omega
    · rw [HSO.out, HOU.out]
      exact ⟨v, rfl, (o2.kept (grownBy_putObj' _ D _) (.inr fun ee => by
        obtain ⟨cz, hz⟩ := own_obj o2 ee
        rw [d2] at hz
        cases hz)).less (by omega), bz.grown (grownBy_putObj' _ D _) bz.size (fun r e => by cases e; omega)⟩
end Go.Proofs.YtlinmcgmkpkpaaaDoor.Cn
namespace Go.Proofs.YtlinmcgmkpkpaaaDoor.Pi
open Go.RowKit Go.Shelf Mem Held Go.Proofs.YtlinmcgmkpkpaaaDoor.Range Ct Rc Rs Sl Vm Mg Cn
attribute [local go_sem] Oper.semAt_some
attribute [local irreducible] wpList wpListIn Calls
theorem foldC_snoc (F G : Int → Int → Int) : ∀ (so : R) (l : List (List R)) (b : List R), foldC F G so (l ++ [b]) = foldC F G so l ++ [sortR false (outs F G (ends F so l.flatten) b)]
  | so, [], b => rfl
  | so, x :: l, b => by rw [List.cons_append, foldC, foldC_snoc F G _ l b, foldC, List.flatten_cons, ends_append]; rfl
theorem take_snoc {bs : List (List R)} {i : Nat} (hi : i < bs.length) : bs.take (i + 1) = bs.take i ++ [blk bs i] := by
  unfold blk
  rw [List.take_add_one, List.getElem?_eq_getElem hi, List.getD_eq_getElem?_getD, List.getElem?_eq_getElem hi]
  rfl
set_option maxRecDepth 100000 in
set_option maxHeartbeats 8000000 in
theorem folded_ok (B Bs S z : Nat) (K : Int) (A1 A2 A3 A : Option Addr) (n1 c1 n2 c2 n3 c3 n c : Nat) (m f fi : List O) (bs : List (List R)) (w : World) (h1 : Lst kO w B A1 n1 m) (h2 : Lst kO w B A2 n2 f) (h3 : Lst kO w B A3 n3 fi) (hB : B ≤ w.heap.size) (hC : checkB K m f fi = true) (hG : Grid w Bs (.slice A n c) bs) (hl : bs.length = 2 ^ S) (hS : S ≤ 5) (hz : ∀ x ∈ bs, x.length = z) (hz8 : z ≤ 8) (hwf : Wf bs) :
    Calls Tryd.prog 46 #[.agg #[.int .i64 K, .slice A1 n1 c1, .slice A2 n2 c2, .slice A3 n3 c3], .slice A n c] w fun e w' => ∃ V, e = .returned V ∧ Grid w' w.heap.size V (foldC (foldV K m f fi) (finishV K m f fi) RD bs) ∧ Below w.heap.size w w' := by
  obtain ⟨vs0, o0, t0⟩ := hG
  obtain ⟨A', n', c', e1, hn', _⟩ := OwnL.form2 o0
  injection e1 with e1 e2 e3
  subst e1
  subst e2
  subst e3
  have HFW := Lib.hid (fun a b ha hb => Sp.foldV_wf (K := K) (m := m) (e := fi) h2.2.1 a b ha hb)
  have HGW := Lib.hid (fun a b ha hb => Sp.finishV_wf (K := K) (m := m) (f := f) h3.2.1 a b ha hb)
  have HNL : vs0.length = n := hn'.out
  have HBL := Lib.hid (show bs.length = n by rw [← t0.1, HNL])
  have hn32 : n ≤ 32 := by rw [← HBL.out, hl]; exact Nat.pow_le_pow_right (n := 2) (i := S) (by omega) hS
  have hn1 : 1 ≤ n := by rw [← HBL.out, hl]; exact Nat.two_pow_pos _
  have HZ := Lib.hid hz
  have HWF := Lib.hid hwf
  have HST := Lib.hid (fun (co : R) (A : Option Addr) (n c : Nat) (rs : List R) (W : World) (h1 : Lst kO W B A1 n1 m) (h2 : Lst kO W B A2 n2 f) (h3 : Lst kO W B A3 n3 fi) (hl : Lst kRec W W.heap.size A n rs) (hB : B ≤ W.heap.size) (hn : n ≤ 524288) (hco : co.wf) => step_any B W.heap.size K A1 A2 A3 A n1 c1 n2 c2 n3 c3 n c m f fi co rs W h1 h2 h3 hl hB (Nat.le_refl _) hn hC hco)
  have HSN := Lib.hid (fun (i : Nat) (hi : i < bs.length) => (show foldC (foldV K m f fi) (finishV K m f fi) RD (bs.take (i + 1)) = foldC (foldV K m f fi) (finishV K m f fi) RD (bs.take i) ++ [sortR false (outs (foldV K m f fi) (finishV K m f fi) (ends (foldV K m f fi) RD (bs.take i).flatten) (blk bs i))] from by rw [take_snoc hi, foldC_snoc]))
  have HEN := Lib.hid (fun (i : Nat) (hi : i < bs.length) => (show ends (foldV K m f fi) RD (bs.take (i + 1)).flatten = ends (foldV K m f fi) (ends (foldV K m f fi) RD (bs.take i).flatten) (blk bs i) from by rw [take_snoc hi, List.flatten_append, ends_append]; simp))
  have HBA := Lib.hid (fun (i : Nat) => (show bareR (ends (foldV K m f fi) RD (bs.take i).flatten) = ends (foldV K m f fi) RD (bs.take i).flatten from by rw [bare_ends, bare_dead]))
  have HEW := Lib.hid (fun (i : Nat) => (show (ends (foldV K m f fi) RD (bs.take i).flatten).wf from ends_wf HFW.out RD _ wf_dead (fun r hr => by
    obtain ⟨X, hX, hr⟩ := List.mem_flatten.1 hr
    exact hwf X (List.mem_of_mem_take hX) r hr)))
  have HOW := Lib.hid (fun (co : R) (hco : co.wf) (X : List R) (hX : ∀ r ∈ X, r.wf) => (show ∀ r ∈ outs (foldV K m f fi) (finishV K m f fi) co X, r.wf from outs_wf HFW.out HGW.out co X hco hX))
  have HOL := Lib.hid (fun (co : R) (X : List R) => outs_length (F := foldV K m f fi) (G := finishV K m f fi) co X)
  obtain ⟨g0, rfl, hg00, hg0w, _⟩ := own_at0 o0 (by omega)
  have HE0 := Lib.hid (show ends (foldV K m f fi) RD (bs.take 0).flatten = RD by simp [ends])
  have HF0 := Lib.hid (show foldC (foldV K m f fi) (finishV K m f fi) RD (bs.take 0) = [] by simp [foldC])
  have HALL := Lib.hid (show bs.take n = bs from List.take_of_length_le (by rw [HBL.out]; exact Nat.le_refl _))
  generalize foldV K m f fi = F at *
  generalize finishV K m f fi = Gf at *
  clear hC hl hS hz hwf hn' HFW HGW
  go_enter Tryd.func46, Tryd.ntmps46
  go_wp2_with (refine wpList_box_blk (w := w) rfl 26 _ rfl #[.int .i64 K, .slice A1 n1 c1, .slice A2 n2 c2, .slice A3 n3 c3] rfl ?_; intro u1 q1 g1 z1)
  have b1 : Below w.heap.size w u1 := (Below.refl _ w).grown g1 (Nat.le_refl _) (by simp)
  refine (dead_any u1).mono ?_
  rintro e u2 ⟨rfl, b2⟩
  have q1 := q1.after b2
  have b2 := b1.trans (b2.mono b1.size)
  go_wp2_with (first
    | (refine wpList_alloc_blk (w := u2) rfl 51 rfl _ zero_rec ?_; intro u3 q3 g3 z3)
    | (refine wpList_store_blk (w := u3) rfl 51 _ _ rfl u2.heap.size 4 rfl 51 _ #[.bool true, .int .i64 0, .int .i64 0, .int .i64 0] rfl q3 info_rec rfl rfl (by kernel_rfl) ?_; intro u4 q4 g4 z4))
  have l1 : w.heap.size < u2.heap.size := q1.lt
  have l3 : u2.heap.size < u3.heap.size := q3.lt
  have q1 := (q1.grown g3 (by simp)).grown g4 (by intro e; injection e with e; omega)
  have b4 : Below w.heap.size w u4 := (b2.grown g3 b2.size (by simp)).grown g4 (by omega) (fun r e => by cases e; omega)
  have q4 : Blk u4 u2.heap.size 51 #[.bool RD.d, .int .i64 RD.k, .int .i64 RD.v, .int .i64 RD.s] := q4
  have g4s : u2.heap.size < u4.heap.size := by have := g4.size; omega
  clear q3 g1 g3 g4 z1 z3 z4 b1 b2 l3
  have hbc : w.heap.size ≤ u2.heap.size := by omega
  have hne : w.heap.size ≠ u2.heap.size := by omega
  obtain ⟨ub, hub⟩ : ∃ ub, ub = u4.heap.size := ⟨_, rfl⟩
  have h5u : u2.heap.size < ub := by have := g4s; omega
  have hwu : w.heap.size ≤ ub := by have := b4.size; omega
  have huu : ub ≤ u4.heap.size := by omega
  clear hub g4s
  generalize u2.heap.size = b5 at *
  generalize u4 = u at *
  clear l1
  go_wp2_with fail
  go_loopw [6, 14] (fun va iv wr => ∃ (i : Nat) (vs : List (Option Addr × Nat × Nat)), i ≤ n ∧ iv = .int .i64 i ∧ OwnL kS 48 wr w.heap.size va vs ∧ vs.length = i ∧ Tb wr ub vs (foldC F Gf RD (bs.take i)) ∧ ub ≤ wr.heap.size ∧ Blk wr b5 51 #[.bool (ends F RD (bs.take i).flatten).d, .int .i64 (ends F RD (bs.take i).flatten).k, .int .i64 (ends F RD (bs.take i).flatten).v, .int .i64 (ends F RD (bs.take i).flatten).s] ∧ Blk wr w.heap.size 26 #[.int .i64 K, .slice A1 n1 c1, .slice A2 n2 c2, .slice A3 n3 c3] ∧ Below w.heap.size w wr) (fun _ i _ => n - (intOf i).toNat)
  case atStart => exact ⟨0, [], by omega, rfl, OwnL.nil _ _ _ _, rfl, by rw [HF0.out]; exact Tb.nil _ _, huu, by rw [HE0.out]; exact q4, q1, b4⟩
  case round =>
    clear q4 q1 b4
    obtain ⟨i, vs, hi, rfl, ho, hvl, ht, hur, q5, q1, hst⟩ := hrel
    by_cases hlt : i < n
    · have hlt' : (i : Int) < (n : Int) := by omega
      have HF1 := Lib.hid (HSN.out i (by rw [HBL.out]; exact hlt))
      have HE1 := Lib.hid (HEN.out i (by rw [HBL.out]; exact hlt))
      have HB1 := Lib.hid (HBA.out i)
      have hcw := HEW.out i
      have o0W := OwnL.below o0 hst
      have t0W := t0.below hst
      obtain ⟨ca, hgr⟩ := slot_cell o0W hlt
      have oX : OwnL kRec 51 wr Bs (slV (vs0.getD i kS.d)) (blk bs i) := t0W.2 i (by omega)
      have hXl : (blk bs i).length = z := HZ.out _ (blk_mem (by rw [HBL.out]; exact hlt))
      have hXw := HWF.out.blk i
      obtain ⟨⟨Ax, nx, cx⟩, hp1⟩ : ∃ p, vs0.getD i kS.d = p := ⟨_, rfl⟩
      rw [hp1] at oX ca
      have lX := OwnL.lst (A := Ax) (n := nx) (c := cx) oX hXw
      obtain rfl : z = nx := hXl.symm.trans lX.1
      have ca : wr.cell? ⟨g0, i, none⟩ = some (.slice Ax z cx) := ca
      generalize blk bs i = X at lX hXl hXw HF1 HE1
      generalize ends F RD (bs.take i).flatten = co at q5 HF1 HE1 HB1 hcw
      have hcw2 : (bareR co).wf := by rw [HB1.out]; exact hcw
      have HW2 := Lib.hid (HOW.out co hcw X hXw)
      have HL2 := Lib.hid (show (outs F Gf co X).length = z by rw [HOL.out]; exact hXl)
      have HS1 := HST.out co Ax z cx X wr (h1.below (hst.mono hB)) (h2.below (hst.mono hB)) (h3.below (hst.mono hB)) lX (Nat.le_trans hB hst.size) (by omega) hcw
      rw [HB1.out] at HS1
      have had1 : ∀ W : World, (Instr.indexAt 45 (.slice (some ⟨g0, 0, none⟩) n c) (.int .i64 (i : Int))).run Tryd.prog W = .ok (.pointer (some ⟨g0, i, none⟩)) W := fun W => by
        have := run_addr_slice (P := Tryd.prog) 45 48 g0 0 n c i .i64 Tryd.underlying45 (by kernel_rfl) hlt W
        rwa [Nat.zero_add] at this
      clear oX o0W t0W hp1 hXl hXw hcw2
      go_wp2_with (first
        | (refine Held.wpList_run (w := wr) rfl (v := .pointer (some ⟨g0, i, none⟩)) (Held.y_addr (S := fun _ => True) rfl rfl rfl had1 _ trivial) ?_)
        | (refine wpList_load_blk (w := wr) rfl 26 _ rfl w.heap.size 4 rfl 26 _ q1 _ Tryd.underlying26 rfl info_prog rfl ?_)
        | (refine wpList_load_blk (w := wr) rfl 51 _ rfl b5 4 rfl 51 _ q5 _ Tryd.underlying51 rfl info_rec rfl ?_))
      refine HS1.mono ?_
      rintro e w1 ⟨v, rfl, o1, b1⟩
      have q5 := q5.after b1
      have q1 := q1.after b1
      have ho := OwnL.below ho b1
      have ht := ht.below b1
      have s1 := b1.size
      have hs0 := hst.size
      have b1 := hst.trans (b1.mono hst.size)
      generalize ends F co X = co2 at HE1
      obtain ⟨A6, n6, c6, rfl, hn6, _⟩ := OwnL.form2 o1
      obtain rfl : z = n6 := hn6.out.symm.trans HL2.out |>.symm
      clear HS1 hcw lX ca
      go_wp2_with (first
        | (refine wpList_alloc_blk (w := w1) rfl 51 rfl _ zero_rec ?_; intro w2 q2 g2 z2)
        | (refine wpList_store_blk (w := w2) rfl 51 _ _ rfl w1.heap.size 4 rfl 51 _ #[.bool co2.d, .int .i64 co2.k, .int .i64 co2.v, .int .i64 co2.s] rfl q2 info_rec rfl rfl (by kernel_rfl) ?_; intro w3 q3 g3 z3))
      have l2 : w1.heap.size < w2.heap.size := q2.lt
      have l3 := g3.size
      have l5 : b5 < w1.heap.size := q5.lt
      have hlow : ∀ b, b < w1.heap.size → some b ≠ some w1.heap.size := fun b hb e => by injection e with e; omega
      have o1 := own_new (own_new o1 g2 (fun r e => by cases e)) g3 (fun r e b hb => by cases e; have := (OwnL.lt o1 b hb).2; omega)
      have ho := own_new (own_new ho g2 (fun r e => by cases e)) g3 (fun r e b hb => by cases e; have := (OwnL.lt ho b hb).2; omega)
      have b3 : Below w.heap.size w w3 := (b1.grown g2 b1.size (by simp)).grown g3 (by omega) (fun r e => by cases e; omega)
      have ht : Tb w3 ub vs (foldC F Gf RD (bs.take i)) := ⟨ht.1, fun j hj => own_new (own_new (ht.2 j hj) g2 (fun r e => by cases e)) g3 (fun r e b hb => by cases e; have := (OwnL.lt (ht.2 j hj) b hb).2; omega)⟩
      have q5 := (q5.grown g2 (by simp)).grown g3 (hlow _ q5.lt)
      have q1 := (q1.grown g2 (by simp)).grown g3 (hlow _ q1.lt)
      have lz := OwnL.lst o1 HW2.out
      have hne5 : b5 ≠ w1.heap.size := by omega
      have hw13 : w.heap.size ≤ w3.heap.size := b3.size
      have hu13 : ub ≤ w3.heap.size := by omega
      have hHS := Lib.hid (show (sortR false (outs F Gf co X)).length = z by rw [sortR_length]; exact HL2.out)
      have q3 : Blk w3 w1.heap.size 51 #[.bool co2.d, .int .i64 co2.k, .int .i64 co2.v, .int .i64 co2.s] := q3
      clear o1 q2 g2 g3 z2 z3 l5 s1 l2 l3 hlow
      generalize w1.heap.size = b10 at *
      go_wp2_with fail
      refine (sort_any w3.heap.size A6 z c6 (outs F Gf co X) false w3 lz (Nat.le_refl _) (by omega)).mono ?_
      rintro e w4 ⟨v, rfl, o4, b4⟩
      obtain ⟨A7, n7, c7, rfl, hn7, _⟩ := OwnL.form2 o4
      obtain rfl : z = n7 := hn7.out.symm.trans hHS.out |>.symm
      have q3 := q3.after b4
      have q5 := q5.after b4
      have q1 := q1.after b4
      have ho := OwnL.below ho b4
      have ht := ht.below b4
      have o4 := OwnL.less o4 hu13
      have hu4 := Nat.le_trans hu13 b4.size
      have b4 := b3.trans (b4.mono hw13)
      clear lz b3 hn7
      go_wp2_with (first
        | (refine wpList_build_slot (w := w4) rfl _ rfl (A7, z, c7) rfl ?_; intro w5 l5 g5; have o5 := own_new ho g5 (fun r e => by cases e); have b5w : Below w.heap.size w w5 := b4.grown g5 b4.size (by simp); have t5 := (ht.grown g5 (fun r e => by cases e)).snoc (p := (A7, z, c7)) (own_new o4 g5 (fun r e => by cases e)); have q3 := q3.grown g5 (by simp); have q5 := q5.grown g5 (by simp); have q1 := q1.grown g5 (by simp))
        | (at_builtin; refine wpList_append_all (k := kS) (w := w5) rfl _ _ 45 48 rfl Tryd.underlying45 _ 24 info_kS rfl w.heap.size w5.heap.size 1 1 (some ⟨w4.heap.size, 0, none⟩) u6 vs [(A7, z, c7)] rfl rfl o5 l5 (by omega) (by omega) b5w.size ?_; intro v6 w6 o6 g6 m6; have q36 := q3.grown g6 (fun e => OwnL.ne_blk o5 q3 (by decide) e.symm); have q56 := q5.grown g6 (fun e => OwnL.ne_blk o5 q5 (by decide) e.symm))
        | (refine wpList_load_blk (w := w6) rfl 51 _ rfl b10 4 rfl 51 _ q36 _ Tryd.underlying51 rfl info_rec rfl ?_)
        | (refine wpList_store_blk (w := w6) rfl 51 _ _ rfl b5 4 rfl 51 _ #[.bool co2.d, .int .i64 co2.k, .int .i64 co2.v, .int .i64 co2.s] rfl q56 info_rec rfl rfl (by kernel_rfl) ?_; intro w7 q7 g7 z7))
      have t6 := t5.grown g6 (fun r e => own_cells o5 e)
      have b6 : Below w.heap.size w w6 := b5w.grown g6 b5w.size (fun r e => (OwnL.lt o5 r e).1)
      have q16 := q1.grown g6 (fun e => OwnL.ne_blk o5 q1 (by decide) e.symm)
      have n10 : ∀ b, v6.ownBlock = some b → b ≠ b5 := fun b hb e => OwnL.ne_blk o6 q56 (by decide) (by rw [hb, e])
      have o7 := own_new o6 g7 (fun r e b hb => by cases e; exact n10 b hb)
      have b7 : Below w.heap.size w w7 := b6.grown g7 b6.size (fun r e => by cases e; exact hbc)
      have q17 := q16.grown g7 (by intro e; injection e with e; exact hne e)
      rw [← HF1.out] at t6
      have t7 : Tb w7 ub (vs ++ [(A7, z, c7)]) (foldC F Gf RD (bs.take (i + 1))) := ⟨t6.1, fun j hj => own_new (t6.2 j hj) g7 (fun r e b hb => by cases e; have := (OwnL.lt (t6.2 j hj) b hb).1; omega)⟩
      have hu7 : ub ≤ w7.heap.size := Nat.le_trans hu4 (Nat.le_trans g5.size (Nat.le_trans g6.size g7.size))
      rw [← HE1.out] at q7
      go_roundw
      case rel => exact ⟨i + 1, _, by omega, by go_num, o7, by simp [hvl], t7, hu7, q7, q17, b7⟩
      case measure => simp [intOf]; omega
    · obtain rfl : i = n := by omega
      rw [HALL.out] at ht
      go_wp2_with fail
      go_ret
      exact ⟨_, rfl, ⟨vs, ho, ht.1, fun j hj => OwnL.less (ht.2 j hj) hwu⟩, hst⟩
end Go.Proofs.YtlinmcgmkpkpaaaDoor.Pi
namespace Go.Proofs.YtlinmcgmkpkpaaaDoor.Pi
open Go.RowKit Go.Shelf Go.Proofs.YtlinmcgmkpkpaaaDoor Mem Held Go.Proofs.YtlinmcgmkpkpaaaDoor.Range Rc Rs Sl Vm
attribute [local irreducible] wpList wpListIn Calls
set_option maxRecDepth 100000 in
set_option maxHeartbeats 4000000 in
theorem mul64_big (K : Nat) (h0 : 1 ≤ K) (hK : K ≤ 1000) (w : World) :
    Calls Tryd.prog 89 #[.int .u64 1, .int .u64 (K : Int)] w fun e w' => e = .returned (.tuple #[.int .u64 0, .int .u64 (K : Int)]) ∧ w = w' := by
  have e1 : bits .and .u64 1 4294967295 = 1 := low32 1 (by omega)
  have e0 : bits .and .u64 0 4294967295 = 0 := low32 0 (by omega)
  have e2 : bits .and .u64 (K : Int) 4294967295 = (K : Int) := low32 K (by omega)
  have e3 : (K : Int) / 4294967296 = 0 := by omega
  have e4 : (1 : Int) / 4294967296 = 0 := by omega
  have e5 : (K : Int) % 18446744073709551616 = (K : Int) := by omega
  go_enter Tryd.func89, Tryd.ntmps89
  go_wp2_with fail
  exact bodyPost_ret (results_tmp2 rfl _ _ _) rfl ⟨rfl, rfl⟩
theorem mul_big (K : Nat) (h0 : 1 ≤ K) (hK : K ≤ 1000) (w : World) :
    Calls Tryd.prog 68 #[.int .u64 1, .int .u64 (K : Int)] w fun e w' => e = .returned (.tuple #[.int .u64 0, .int .u64 (K : Int)]) ∧ w = w' := by
  go_enter Tryd.func68, Tryd.ntmps68
  go_wp2_with fail
  refine (mul64_big K h0 hK w).mono ?_
  rintro e w1 ⟨rfl, rfl⟩
  go_wp2_with fail
  exact bodyPost_ret (results_tmp2 rfl _ _ _) rfl ⟨rfl, rfl⟩
set_option maxRecDepth 100000 in
set_option maxHeartbeats 4000000 in
theorem repeat_big (B : Nat) (A : Option Addr) (c K : Nat) (x : R) (w : World) (h : Lst kR w B A 1 [x]) (hB : B ≤ w.heap.size) (h1 : 1 ≤ K) (h4 : K ≤ 1000) :
    Calls Tryd.prog 55 #[.slice A 1 c, .int .i64 (K : Int)] w fun e w' => ∃ g, e = .returned (.slice (some ⟨g, 0, none⟩) K K) ∧ Blk w' g 51 (flat kR (List.replicate K x)).toArray ∧ w.heap.size ≤ g ∧ Below w.heap.size w w' := by
  have hcv : IntKind.u64.wrap (K : Int) = (K : Int) := by rw [IntKind.wrap_u64]; omega
  have hx := h.2.1
  go_enter Tryd.func55, Tryd.ntmps55
  go_wp2_with fail
  refine (mul_big K h1 h4 w).mono ?_
  rintro e w1 ⟨rfl, rfl⟩
  go_wp2_with (first
    | (refine wpList_make_lst (k := kR) w rfl _ _ 48 rfl w.heap.size 51 Tryd.underlying48 32 info_rec3 .i64 .i64 K _ _ rfl rfl rfl rfl (by omega) (by simp [maxLen]; omega) (Nat.le_refl _) ?_; intro w1 q1 o1 g1)
    | (refine wpList_copy_lst (w := w1) (k := kR) rfl _ _ 48 48 rfl 51 Tryd.underlying48 size_rec B w.heap.size 0 0 K K A 1 c rfl rfl 51 (List.replicate K R0) [x] 1 q1 (Nat.min_eq_left h1) (by omega) (h.below ((Below.refl w.heap.size w).grown g1 (Nat.le_refl _) (by simp) |>.mono hB)) (by simp) (by simp; omega) ?_; intro w2 q2 g2))
  rw [rep_one x K h1] at q2
  have b1 : Below w.heap.size w w1 := (Below.refl _ w).grown g1 (Nat.le_refl _) (by simp)
  have b2 : Below w.heap.size w w2 := b1.grown g2 b1.size (fun r e => by cases e; exact Nat.le_refl _)
  clear q1 o1 g1 g2 b1
  obtain ⟨g, hg⟩ : ∃ g, w.heap.size = g := ⟨_, rfl⟩
  have HG := Lib.hid hg
  rw [hg] at q2 ⊢
  have b2 : Below g w w2 := hg ▸ b2
  clear hg h
  go_loopw [8] (fun n wr => ∃ i : Nat, 1 ≤ i ∧ i ≤ K ∧ n = .int .i64 i ∧ Blk wr g 51 (flat kR (List.replicate i x ++ List.replicate (K - i) R0)).toArray ∧ Below g w wr) (fun n _ => K - (intOf n).toNat)
  case atStart => exact ⟨1, by omega, h1, rfl, q2, b2⟩
  case round =>
    clear q2 b2
    obtain ⟨i, hi1, hiK, rfl, q, b⟩ := hrel
    by_cases hlt : i < K
    · have hlt' : (i : Int) < (K : Int) := by omega
      have hfront := fun W => run_front_s (P := Tryd.prog) 4 Tryd.underlying48 size_rec g 0 K K (h := i) hiK W
      have hback := fun W => run_back_s (P := Tryd.prog) 4 Tryd.underlying48 size_rec g 0 K K (l := i) hiK hlt W
      have hm1 : min i (K - i) ≤ i := Nat.min_le_left _ _
      have hm2 : min i (K - i) ≤ K - i := Nat.min_le_right _ _
      obtain ⟨m, hm⟩ : ∃ m, min i (K - i) = m := ⟨_, rfl⟩
      have hmN : Nat.min i (K - i) = m := hm
      have hm0 : 0 < m := by omega
      rw [hm] at hm1 hm2
      have hsum : IntKind.i64.wrap ((i : Int) + (m : Int)) = ((i + m : Nat) : Int) := by rw [IntKind.wrap_i64]; omega
      have HLR := Lib.hid ((laid_rep x R0 i m K (by omega)).resolve_right (by omega))
      have HL : Lst kR wr wr.heap.size (some ⟨g, 0, none⟩) i ((List.replicate i x ++ List.replicate (K - i) R0).take i) := lst_take (lst_whole q (n := K) (by simp; omega) (fun y hy => by
        rcases List.mem_append.1 hy with hy | hy
        · rw [List.eq_of_mem_replicate hy]; exact hx x (by simp)
        · rw [List.eq_of_mem_replicate hy]; exact ⟨rfl, rfl, rfl⟩)) i hiK
      clear hm
      go_wp2_with fail
      refine wp_region_held (S := fun W => Below g wr W) (by kernel_rfl) ?_
      change wpAnyH _ _ _ _ _ _ _ _ wr.drew
      have c0_0 := (Below.refl g wr).drew
      refine Held.tk (v := .int .i64 (i : Int)) 0 (some 38) rfl (Held.y_move rfl rfl) c0_0 ?_
      simp only [Act.put, Z1, Z2, Z3]
      refine Held.tk (v := .slice (some ⟨g, 0, none⟩) K K) 1 (some 39) rfl (Held.y_move rfl rfl) c0_0 ?_
      simp only [Act.put, Z1, Z2, Z3]
      refine Held.tk (v := .int .i64 (i : Int)) 2 (some 40) rfl (Held.y_move rfl rfl) c0_0 ?_
      simp only [Act.put, Z1, Z2, Z3]
      refine Held.tk (v := .slice (some ⟨g, 0 + i * 4, none⟩) (K - i) (K - i)) 3 (some 41) rfl (Held.y_slice rfl hback) c0_0 ?_
      simp only [Act.put, Z1, Z2, Z3]
      refine Held.tk (v := .slice (some ⟨g, 0, none⟩) K K) 4 (some 42) rfl (Held.y_move rfl rfl) c0_0 ?_
      simp only [Act.put, Z1, Z2, Z3]
      refine Held.tk (v := .int .i64 (i : Int)) 5 (some 43) rfl (Held.y_move rfl rfl) c0_0 ?_
      simp only [Act.put, Z1, Z2, Z3]
      refine Held.tk (v := .slice (some ⟨g, 0, none⟩) i K) 6 (some 44) rfl (Held.y_slice rfl hfront) c0_0 ?_
      simp only [Act.put, Z1, Z2, Z3]
      refine Held.one 7 (by kernel_rfl) ?_
      refine op_copy_lst (k := kR) (w := wr.drew) 7 (some 45) 48 48 rfl rfl rfl rfl 51 Tryd.underlying48 size_rec wr.heap.size g (0 + i * 4) i (K - i) (K - i) (some ⟨g, 0, none⟩) i K rfl rfl 51 (List.replicate i x ++ List.replicate (K - i) R0) ((List.replicate i x ++ List.replicate (K - i) R0).take i) m q.drew hmN hm0 (HL.keep (fun p hp => rfl)) (by simp; rfl) (by simp; omega) ?_
      intro w3 q3 g3
      rw [List.take_take, Nat.min_eq_left hm1, HLR.out] at q3
      have hgw := q.lt
      have c0_1 : Below g wr w3 := Below.grown (w := wr.drew) c0_0 g3 (Nat.le_of_lt hgw) (fun r e => by cases e; exact Nat.le_refl _)
      refine ⟨c0_1, ?_⟩
      simp only [Act.put, Z1, Z2, Z3]
      refine Held.tk (v := .int .i64 ((i + m : Nat) : Int)) 8 (some 46) rfl (Held.y_int rfl rfl rfl (Held.run_add 3 .i64 (hsum))) c0_1 ?_
      simp only [Act.put, Z1, Z2, Z3]
      refine Held.tk (v := .int .i64 ((i + m : Nat) : Int)) 9 (some 8) rfl (Held.y_assign rfl rfl) c0_1 ?_
      simp only [Act.put, Z1, Z2, Z3]
      refine wpAnyH_done (by kernel_rfl) ?_ _
      have b3 := b.trans c0_1
      clear hmN HLR HL hfront hback hsum q b
      go_wp2_with fail
      go_roundw
      case rel => exact ⟨i + m, by omega, by omega, by go_num, q3, b3⟩
      case measure => simp [intOf]; omega
    · have hiK' : i = K := by omega
      subst hiK'
      rw [Nat.sub_self, List.replicate_zero, List.append_nil] at q
      go_wp2_with fail
      go_ret
      exact ⟨g, rfl, q, by rw [HG.out]; exact Nat.le_refl _, by rw [HG.out]; exact b⟩
end Go.Proofs.YtlinmcgmkpkpaaaDoor.Pi
