/-
  The law MergeSorts of package dominolaw14 returns true whatever two lists of records come in, by either order: sorted, and split, they are as the document says, and what was handed in stays.
-/
import Derived.Test.YtbhgonnonhiocaaRows
import Derived.WalkKit
import Derived.ProofKit
import Derived.OpenShut
import Derived.ShutString
import Derived.ChangeOld
import Derived.Below
import Derived.Test.YtbhgonnonhiocaaB8
namespace Go.Proofs.Ytbhgonnonhiocaa.mergeSorts
open Go.ChangeShapes Go.WideShapes Go.ChangeAt Go.RowKit
open Go.ChangeMaps (open_string shut_string)
open Go.Shelf Go.Proofs.Ytbhgonnonhiocaa Mem Held Ct Rc Rs Sl Mg
theorem own : ownKnob Try.prog.godebug = none := by kernel_rfl
theorem laidOut : laidOutB Try.prog = true := by kernel_rfl
attribute [local irreducible] wpList wpListIn Calls
def f71 : R := ⟨false, 71, 0, 0⟩
theorem recs_own {w : World} {g : Nat} {rs : List R} {n : Nat} (q : Blk w g 26 (Rs.flat (rs ++ [f71, f71, f71])).toArray) (hw : ∀ r ∈ rs, r.wf) (hn : rs.length = n) : Lst kRec w w.heap.size (some ⟨g, 0, none⟩) n rs := by
  subst hn
  exact recs_lst (recs_of_blk q hw)
set_option maxRecDepth 100000 in
set_option maxHeartbeats 16000000 in
theorem start (A A2 : Option Addr) (n c n2 c2 : Nat) (rs rs2 : List R) (seq : Bool) (u : World) (h : Recs u u.heap.size A n rs) (h2 : Recs u u.heap.size A2 n2 rs2) :
    Calls Try.prog 3 #[.slice A n c, .slice A2 n2 c2, .bool seq] u fun e u' => e = .returned (.bool true) ∧ Below u.heap.size u u' := by
  by_cases hbig : n > 60 ∨ n2 > 60
  · go_enter Try.func3, Try.ntmps3
    by_cases h1 : n > 60
    · have h1' : decide ((60 : Int) < (n : Int)) = true := by simp; omega
      go_wp2_with (refine Held.wpList_run (w := u) rfl (v := .bool true) (Held.y_gtr (S := fun _ => True) rfl rfl rfl h1' _ trivial) ?_; simp only [Act.put, Z1, Z2, Z3])
      refine (awake14_any u).mono ?_
      rintro e w1 ⟨rfl, b1⟩
      go_wp2_with fail
      go_ret
      exact ⟨rfl, b1⟩
    · have h1' : decide ((60 : Int) < (n : Int)) = false := by simp; omega
      have h2' : decide ((60 : Int) < (n2 : Int)) = true := by simp; omega
      go_wp2_with (first
        | (refine Held.wpList_run (w := u) rfl (v := .bool false) (Held.y_gtr (S := fun _ => True) rfl rfl rfl h1' _ trivial) ?_; simp only [Act.put, Z1, Z2, Z3])
        | (refine Held.wpList_run (w := u) rfl (v := .bool true) (Held.y_gtr (S := fun _ => True) rfl rfl rfl h2' _ trivial) ?_; simp only [Act.put, Z1, Z2, Z3]))
      refine (awake14_any u).mono ?_
      rintro e w1 ⟨rfl, b1⟩
      go_wp2_with fail
      go_ret
      exact ⟨rfl, b1⟩
  · have h1' : decide ((60 : Int) < (n : Int)) = false := by simp; omega
    have h2' : decide ((60 : Int) < (n2 : Int)) = false := by simp; omega
    have hn : n ≤ 60 := by omega
    have hn2 : n2 ≤ 60 := by omega
    have HL := Lib.hid h.1
    have HL2 := Lib.hid h2.1
    have HLT := Lib.hid (show (sortR seq (rs ++ rs2)).length = n + n2 by rw [sortR_length, List.length_append, h.1, h2.1])
    have HW := Lib.hid (show ∀ x ∈ sortR seq (rs ++ rs2), x.wf from fun x hx => by
      have hx := (sortR_perm seq (rs ++ rs2)).mem_iff.1 hx
      exact (List.mem_append.1 hx).elim (h.2.1 x) (h2.2.1 x))
    have HLS := Lib.hid (show (sortR seq rs).length = n by rw [sortR_length, h.1])
    have HWS := Lib.hid (show ∀ x ∈ sortR seq rs, x.wf from fun x hx => h.2.1 x ((sortR_perm seq rs).mem_iff.1 hx))
    have HWA := Lib.hid h.2.1
    have HWB := Lib.hid h2.2.1
    clear hbig
    go_enter Try.func3, Try.ntmps3
    go_wp2_with (first
      | (refine Held.wpList_run (w := u) rfl (v := .bool false) (Held.y_gtr (S := fun _ => True) rfl rfl rfl h1' _ trivial) ?_; simp only [Act.put, Z1, Z2, Z3])
      | (refine Held.wpList_run (w := u) rfl (v := .bool false) (Held.y_gtr (S := fun _ => True) rfl rfl rfl h2' _ trivial) ?_; simp only [Act.put, Z1, Z2, Z3])
      | (refine wpList_build_blk rfl 26 #[(1, .const (.int .i64 71))] rfl #[.bool false, .int .i64 71, .int .i64 0, .int .i64 0] (by kernel_rfl) ?_))
    refine (own_any u.heap.size A n c rs f71 u h (Nat.le_refl _) (by omega)).mono ?_
    rintro e w1 ⟨ga, rfl, hga, qa, b1⟩
    go_wp2_with (refine wpList_build_blk rfl 26 #[(1, .const (.int .i64 71))] rfl #[.bool false, .int .i64 71, .int .i64 0, .int .i64 0] (by kernel_rfl) ?_)
    refine (own_any u.heap.size A2 n2 c2 rs2 f71 w1 (h2.below b1) b1.size (by omega)).mono ?_
    rintro e w2 ⟨gb, rfl, hgb, qb, b2⟩
    have qa := qa.after b2
    have b2 := b1.trans (b2.mono b1.size)
    go_wp2_with fail
    refine (split_any w2.heap.size w2.heap.size _ _ n (n + 3) n2 (n2 + 3) rs rs2 seq w2 (recs_own qa HWA.out HL.out) (recs_own qb HWB.out HL2.out) (Nat.le_refl _) (Nat.le_refl _) (by omega) (by omega)).mono ?_
    rintro e w3 ⟨v, v2, rfl, o1, o2, b3⟩
    rw [HL.out] at o1 o2
    obtain ⟨Ap, n', cp, rfl, hn', _⟩ := OwnL.form2 o1
    obtain rfl : n = n' := by have := hn'.out; rw [List.length_take, HLT.out] at this; omega
    obtain ⟨Aq, n2', cq, rfl, hn2', _⟩ := OwnL.form2 o2
    obtain rfl : n2 = n2' := by have := hn2'.out; rw [List.length_drop, HLT.out] at this; omega
    have lp := OwnL.lst o1 (fun x hx => HW.out x (List.mem_of_mem_take hx))
    have lq := OwnL.lst o2 (fun x hx => HW.out x (List.mem_of_mem_drop hx))
    have qa := qa.after b3
    have qb := qb.after b3
    have b3 := b2.trans (b3.mono b2.size)
    clear b1 b2 o1 o2 hn' hn2'
    go_wp2_with fail
    refine (rsplit_any u.heap.size u.heap.size A A2 n c n2 c2 rs rs2 seq w3 (recs_lst (h.below b3)) (recs_lst (h2.below b3)) b3.size b3.size (by omega) (by omega)).mono ?_
    rintro e w4 ⟨Au, cu, Av, cv, rfl, lu, lv, b4⟩
    rw [HL.out] at lu lv
    have lp := (Lst.below lp b4).more b4.size
    have lq := (Lst.below lq b4).more b4.size
    have qa := qa.after b4
    have qb := qb.after b4
    have b4 := b3.trans (b4.mono b3.size)
    clear b3
    go_wp2_with fail
    refine (awake14_any w4).mono ?_
    rintro e w5 ⟨rfl, b5⟩
    have lp := (Lst.below lp b5).more b5.size
    have lq := (Lst.below lq b5).more b5.size
    have lu := (Lst.below lu b5).more b5.size
    have lv := (Lst.below lv b5).more b5.size
    have qa := qa.after b5
    have qb := qb.after b5
    have b5 := b4.trans (b5.mono b4.size)
    clear b4
    go_wp2_with fail
    refine (sort_any w5.heap.size _ n (n + 3) rs seq w5 (recs_own qa HWA.out HL.out) (Nat.le_refl _) (by omega)).mono ?_
    rintro e w6 ⟨v, rfl, o6, b6⟩
    obtain ⟨A6, n', c6, rfl, hn', _⟩ := OwnL.form2 o6
    obtain rfl : n = n' := hn'.out.symm.trans HLS.out |>.symm
    have l6 := OwnL.lst o6 HWS.out
    have lp := (Lst.below lp b6).more b6.size
    have lq := (Lst.below lq b6).more b6.size
    have lu := (Lst.below lu b6).more b6.size
    have lv := (Lst.below lv b6).more b6.size
    have qa := qa.after b6
    have qb := qb.after b6
    have b6 := b5.trans (b6.mono b5.size)
    clear b5 o6 hn'
    go_wp2_with fail
    refine (rsort_any u.heap.size A n c rs seq w6 (recs_lst (h.below b6)) b6.size (by omega)).mono ?_
    rintro e w7 ⟨v, rfl, o7, b7⟩
    obtain ⟨A7, n', c7, rfl, hn', _⟩ := OwnL.form2 o7
    obtain rfl : n = n' := hn'.out.symm.trans HLS.out |>.symm
    have l7 := OwnL.lst o7 HWS.out
    have l6 := (Lst.below l6 b7).more b7.size
    have lp := (Lst.below lp b7).more b7.size
    have lq := (Lst.below lq b7).more b7.size
    have lu := (Lst.below lu b7).more b7.size
    have lv := (Lst.below lv b7).more b7.size
    have qa := qa.after b7
    have qb := qb.after b7
    have b7 := b6.trans (b7.mono b6.size)
    clear b6 o7 hn'
    go_wp2_with fail
    refine (Rs.plain_any w7.heap.size w7.heap.size A6 A7 n n c6 c7 _ _ w7 (lst_recs l6) (lst_recs l7) (Nat.le_refl _) (Nat.le_refl _) (by omega) (by omega)).mono ?_
    rintro e w8 ⟨rfl, b8⟩
    rw [show decide (sortR seq rs = sortR seq rs) = true by simp]
    have lp := (Lst.below lp b8).more b8.size
    have lq := (Lst.below lq b8).more b8.size
    have lu := (Lst.below lu b8).more b8.size
    have lv := (Lst.below lv b8).more b8.size
    have qa := qa.after b8
    have qb := qb.after b8
    have b8 := b7.trans (b8.mono b7.size)
    clear b7 l6 l7
    go_wp2_with fail
    refine (sorted_any w8.heap.size _ n (n + 3) rs seq w8 (recs_own qa HWA.out HL.out) (Nat.le_refl _) (by omega)).mono ?_
    rintro e w9 ⟨rfl, b9⟩
    have lp := (Lst.below lp b9).more b9.size
    have lq := (Lst.below lq b9).more b9.size
    have lu := (Lst.below lu b9).more b9.size
    have lv := (Lst.below lv b9).more b9.size
    have qa := qa.after b9
    have qb := qb.after b9
    have b9 := b8.trans (b9.mono b8.size)
    clear b8
    go_wp2_with fail
    refine (rsorted_any u.heap.size A n c rs seq w9 (recs_lst (h.below b9)) b9.size (by omega)).mono ?_
    rintro e wa ⟨rfl, ba⟩
    have lp := (Lst.below lp ba).more ba.size
    have lq := (Lst.below lq ba).more ba.size
    have lu := (Lst.below lu ba).more ba.size
    have lv := (Lst.below lv ba).more ba.size
    have qa := qa.after ba
    have qb := qb.after ba
    have ba := b9.trans (ba.mono b9.size)
    clear b9
    go_wp2_with fail
    refine (Rs.plain_any wa.heap.size wa.heap.size Ap Au n n cp cu _ _ wa (lst_recs lp) (lst_recs lu) (Nat.le_refl _) (Nat.le_refl _) (by omega) (by omega)).mono ?_
    rintro e wb ⟨rfl, bb⟩
    rw [show decide ((sortR seq (rs ++ rs2)).take n = (sortR seq (rs ++ rs2)).take n) = true by simp]
    have lq := (Lst.below lq bb).more bb.size
    have lv := (Lst.below lv bb).more bb.size
    have qa := qa.after bb
    have qb := qb.after bb
    have bb := ba.trans (bb.mono ba.size)
    clear ba lp lu
    go_wp2_with fail
    refine (Rs.plain_any wb.heap.size wb.heap.size Aq Av n2 n2 cq cv _ _ wb (lst_recs lq) (lst_recs lv) (Nat.le_refl _) (Nat.le_refl _) (by omega) (by omega)).mono ?_
    rintro e wc ⟨rfl, bc⟩
    rw [show decide ((sortR seq (rs ++ rs2)).drop n = (sortR seq (rs ++ rs2)).drop n) = true by simp]
    have qa := qa.after bc
    have qb := qb.after bc
    have bc := bb.trans (bc.mono bb.size)
    clear bb lq lv
    go_wp2_with (refine wpList_build_blk rfl 26 #[(1, .const (.int .i64 71))] rfl #[.bool false, .int .i64 71, .int .i64 0, .int .i64 0] (by kernel_rfl) ?_)
    refine (kept_any u.heap.size A n c ga rs f71 wc (h.below bc) bc.size (by omega) qa).mono ?_
    rintro e wd ⟨rfl, bd⟩
    have qb := qb.after bd
    have bd := bc.trans (bd.mono bc.size)
    clear bc
    go_wp2_with (refine wpList_build_blk rfl 26 #[(1, .const (.int .i64 71))] rfl #[.bool false, .int .i64 71, .int .i64 0, .int .i64 0] (by kernel_rfl) ?_)
    refine (kept_any u.heap.size A2 n2 c2 gb rs2 f71 wd (h2.below bd) bd.size (by omega) qb).mono ?_
    rintro e we ⟨rfl, be⟩
    have be := bd.trans (be.mono bd.size)
    clear bd
    go_wp2_with fail
    go_ret
    exact ⟨rfl, be⟩
theorem walk (A0 : Option Addr) (m0 c0 : Nat) (rs0 : List Rs.R) (A1 : Option Addr) (m1 c1 : Nat) (rs1 : List Rs.R) (a2 : Bool) (w : World) (hr0 : Rs.Recs w w.heap.size A0 m0 rs0) (hc0 : m0 ≤ c0 ∧ c0 ≤ maxLen) (hr1 : Rs.Recs w w.heap.size A1 m1 rs1) (hc1 : m1 ≤ c1 ∧ c1 ≤ maxLen) :
    Calls Try.prog 3 #[.slice A0 m0 c0, .slice A1 m1 c1, .bool a2] w fun e w' => e = .returned (.bool true) ∧ Below w.heap.size w w' := by
  exact start A0 A1 m0 c0 m1 c1 rs0 rs1 a2 w hr0 hr1
set_option maxRecDepth 100000 in
theorem lifted (os : Os) (started : os.Started) (H : Type) (enc : TypeId × Value → H) :
    ReturnsInHanded {} Try.checked os 3 .any (Rows.mergeSortsSpec.pre6 enc Try.prog Try.f3 Rows.mergeSortsRow.domain false) (Rows.mergeSortsSpec.post enc Try.prog Try.f3 false true false false) := by
  refine returnsInHanded_of_change (C := Try.checked) own started (by kernel_rfl) Try.func3
    (ChangeSpec.witness6 (enc := enc) (C := Try.checked) false ⟨#[], #[.slice none 0 0, .slice none 0 0, .bool false], []⟩ 8 (by kernel_rfl) (by kernel_rfl) (by kernel_rfl) (by kernel_rfl)) ?_
  intro W base args ds gs before hval0 hW hcnd _
  have hval : ∀ (j : Nat) t v, Try.f3.params[j]? = some t → args[j]? = some v → Value.okWide Try.prog W .any base t v := hval0
  have hW' := hW
  obtain ⟨p, q, hA0, hV, rfl, hfz, hnd⟩ := hW
  have hA : DataW.TrodAll enc Try.prog W 0 (fun _ => true) true Try.f3.params.toList args.toList ds p := hA0
  rw [Try.params3] at hA hval
  obtain ⟨v0, vs0, d0, ds0, p0, q0, hargs, rfl, rfl, h0, r0⟩ := trodAll_cons hA
  obtain ⟨v1, vs1, d1, ds1, p1, q1, rfl, rfl, rfl, h1, r1⟩ := trodAll_cons r0
  obtain ⟨v2, vs2, d2, ds2, p2, q2, rfl, rfl, rfl, h2, r2⟩ := trodAll_cons r1
  obtain ⟨rfl, rfl, rfl⟩ := trodAll_nil r2
  obtain rfl : args = #[v0, v1, v2] := by cases args; simp_all
  obtain ⟨rfl, rfl⟩ := trodVars_none hV
  obtain ⟨A0, m0, c0, rfl⟩ := okWide_slice Try.underlying22 (hval 0 22 v0 rfl rfl)
  have kk0 := h0
  have lt0 : ∀ x ∈ p0, x.block < W.heap.size := by obtain ⟨m, hm⟩ := kk0; exact DataW.trod_lt m _ _ _ hm
  obtain ⟨rs0, hr0, hc0⟩ := Rs.open_recs h0
  obtain ⟨A1, m1, c1, rfl⟩ := okWide_slice Try.underlying22 (hval 1 22 v1 rfl rfl)
  have kk1 := h1
  have lt1 : ∀ x ∈ p1, x.block < W.heap.size := by obtain ⟨m, hm⟩ := kk1; exact DataW.trod_lt m _ _ _ hm
  obtain ⟨rs1, hr1, hc1⟩ := Rs.open_recs h1
  obtain ⟨a2, rfl, rfl, rfl⟩ := open_bool Try.underlying4 (hval 2 4 v2 rfl rfl) h2
  clear hA0 hval0
  refine (walk A0 m0 c0 rs0 A1 m1 c1 rs1 a2 W hr0 hc0 hr1 hc1).mono fun e W' ⟨he, bel⟩ => ?_
  subst he
  exact ⟨_, rfl, _, _, _, [], _, [], hW', trodAll_mk1 (shut_bool Try.underlying4 _), (trodAll_cons_mk (Below.trod laidOut (by kernel_rfl) (of_decide_eq_true (by kernel_rfl)) kk0 bel lt0) (trodAll_cons_mk (Below.trod laidOut (by kernel_rfl) (of_decide_eq_true (by kernel_rfl)) kk1 bel lt1) (trodAll_cons_mk (shut_bool Try.underlying4 _) trodAll_mk0))), rfl, bel.frame _, fun h => by cases h⟩
theorem over : Rows.mergeSortsRow.holds Try.pinned (OpenSpec.ofChange Rows.mergeSortsSpec) :=
  OpenClaim.holds_of_wide 3 Try.f3 rfl rfl rfl rfl rfl rfl rfl ⟨rfl, rfl, rfl, rfl, rfl⟩ rfl rfl rfl rfl rfl (by kernel_rfl) Try.func3 (by kernel_rfl)
    (of_decide_eq_true (by kernel_rfl)) (by unfold Func.isWrapper; first | (rw [if_pos (by decide +kernel)]; kernel_rfl) | (rw [if_neg (by decide +kernel)]; exact ⟨rfl, rfl⟩))
    (fun os started H enc _ => lifted os started H enc)
theorem proved : Rows.MergeSortsSaid :=
  over
#print axioms proved
end Go.Proofs.Ytbhgonnonhiocaa.mergeSorts
