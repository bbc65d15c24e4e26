/-
  The law ChainSteps of package dominolaw15 returns true for every program, every carry, and every list of records: what comes of them is as the document says, and what was handed in stays.
-/
import Derived.Test.YtkiempdpfmolfaaRows
import Derived.WalkKit
import Derived.ProofKit
import Derived.OpenShut
import Derived.ShutString
import Derived.ChangeOld
import Derived.Below
import Derived.Test.YtkiempdpfmolfaaB9
import Derived.Test.YtkiempdpfmolfaaB12
import Derived.Test.YtkiempdpfmolfaaB13
namespace Go.Proofs.Ytkiempdpfmolfaa.chainSteps
open Go.ChangeShapes Go.WideShapes Go.ChangeAt Go.RowKit
open Go.ChangeMaps (open_string shut_string)
open Go.Shelf Go.Proofs.Ytkiempdpfmolfaa Mem Held Ct Rc Rs Sl Vm Mg Cn
theorem own : ownKnob Try.prog.godebug = none := by kernel_rfl
theorem laidOut : laidOutB Try.prog = true := by kernel_rfl
attribute [local irreducible] wpList wpListIn Calls
def f71 : R := ⟨false, 71, 0, 0⟩
theorem recs_own {w : World} {g : Nat} {rs : List R} {n : Nat} (q : Blk w g 26 (Rs.flat (rs ++ [f71, f71, f71])).toArray) (hw : ∀ r ∈ rs, r.wf) (hn : rs.length = n) : Lst kRec w w.heap.size (some ⟨g, 0, none⟩) n rs := by
  subst hn
  exact recs_lst (recs_of_blk q hw)
set_option maxRecDepth 100000 in
set_option maxHeartbeats 16000000 in
theorem start (K : Int) (Am Af Ae A : Option Addr) (nm cm nf cf ne ce n c : Nat) (lm_ lf_ le_ : List O) (co : R) (rs : List R) (w : World) (hm : Lst kO w w.heap.size Am nm lm_) (hf : Lst kO w w.heap.size Af nf lf_) (he : Lst kO w w.heap.size Ae ne le_) (hr : Recs w w.heap.size A n rs) (hco : co.wf) :
    Calls Try.prog 3 #[.agg #[.int .i64 K, .slice Am nm cm, .slice Af nf cf, .slice Ae ne ce], .agg #[.bool co.d, .int .i64 co.k, .int .i64 co.v, .int .i64 co.s], .slice A n c] w fun e w' => e = .returned (.bool true) ∧ Below w.heap.size w w' := by
  by_cases b0 : n > 100
  · have hn : decide ((100 : Int) < (n : Int)) = true := by simp; omega
    go_enter Try.func3, Try.ntmps3
    go_wp2_with (first
      | (refine wpList_box_blk (w := w) rfl 24 _ rfl #[.int .i64 K, .slice Am nm cm, .slice Af nf cf, .slice Ae ne ce] rfl ?_; intro u1 q1 g1 z1)
      | (refine wpList_box_blk (w := u1) rfl 26 _ rfl #[.bool co.d, .int .i64 co.k, .int .i64 co.v, .int .i64 co.s] rfl ?_; intro u2 q2 g2 z2; have q1 := q1.grown g2 (by simp); have b2 : Below w.heap.size w u2 := ((Below.refl _ w).grown g1 (Nat.le_refl _) (by simp)).grown g2 g1.size (by simp); have e1 := q1.cell (i := 1) rfl; have e2 := q1.cell (i := 2) rfl; have e3 := q1.cell (i := 3) rfl; clear g1 g2 z1 z2)
      | (refine wpList_run (w := u2) rfl (v := .pointer (some ⟨w.heap.size, 1, none⟩)) (Held.y_field (S := fun _ => True) (k := 1) (s := 0) rfl rfl Try.underlying24 rfl (by kernel_rfl) rfl _ trivial) ?_)
      | (refine wpList_run (w := u2) rfl (v := .pointer (some ⟨w.heap.size, 2, none⟩)) (Held.y_field (S := fun _ => True) (k := 2) (s := 0) rfl rfl Try.underlying24 rfl (by kernel_rfl) rfl _ trivial) ?_)
      | (refine wpList_run (w := u2) rfl (v := .pointer (some ⟨w.heap.size, 3, none⟩)) (Held.y_field (S := fun _ => True) (k := 3) (s := 0) rfl rfl Try.underlying24 rfl (by kernel_rfl) rfl _ trivial) ?_)
      | (refine wpList_run (w := u2) rfl (v := .bool true) (Held.y_gtr (S := fun _ => True) rfl rfl rfl hn _ trivial) ?_))
    refine (awake15_any u2).mono ?_
    rintro e w1 ⟨rfl, b1⟩
    have b1 := b2.trans (b1.mono b2.size)
    go_wp2_with fail
    go_ret
    exact ⟨rfl, b1⟩
  by_cases b1 : nm > 100
  · have hn : decide ((100 : Int) < (n : Int)) = false := by simp; omega
    have hnm : decide ((100 : Int) < (nm : Int)) = true := by simp; omega
    go_enter Try.func3, Try.ntmps3
    go_wp2_with (first
      | (refine wpList_box_blk (w := w) rfl 24 _ rfl #[.int .i64 K, .slice Am nm cm, .slice Af nf cf, .slice Ae ne ce] rfl ?_; intro u1 q1 g1 z1)
      | (refine wpList_box_blk (w := u1) rfl 26 _ rfl #[.bool co.d, .int .i64 co.k, .int .i64 co.v, .int .i64 co.s] rfl ?_; intro u2 q2 g2 z2; have q1 := q1.grown g2 (by simp); have b2 : Below w.heap.size w u2 := ((Below.refl _ w).grown g1 (Nat.le_refl _) (by simp)).grown g2 g1.size (by simp); have e1 := q1.cell (i := 1) rfl; have e2 := q1.cell (i := 2) rfl; have e3 := q1.cell (i := 3) rfl; clear g1 g2 z1 z2)
      | (refine wpList_run (w := u2) rfl (v := .pointer (some ⟨w.heap.size, 1, none⟩)) (Held.y_field (S := fun _ => True) (k := 1) (s := 0) rfl rfl Try.underlying24 rfl (by kernel_rfl) rfl _ trivial) ?_)
      | (refine wpList_run (w := u2) rfl (v := .pointer (some ⟨w.heap.size, 2, none⟩)) (Held.y_field (S := fun _ => True) (k := 2) (s := 0) rfl rfl Try.underlying24 rfl (by kernel_rfl) rfl _ trivial) ?_)
      | (refine wpList_run (w := u2) rfl (v := .pointer (some ⟨w.heap.size, 3, none⟩)) (Held.y_field (S := fun _ => True) (k := 3) (s := 0) rfl rfl Try.underlying24 rfl (by kernel_rfl) rfl _ trivial) ?_)
      | (refine wpList_run (w := u2) rfl (v := .bool false) (Held.y_gtr (S := fun _ => True) rfl rfl rfl hn _ trivial) ?_)
      | (refine wpList_run (w := u2) rfl (v := .bool true) (Held.y_gtr (S := fun _ => True) rfl rfl rfl hnm _ trivial) ?_))
    refine (awake15_any u2).mono ?_
    rintro e w1 ⟨rfl, b1⟩
    have b1 := b2.trans (b1.mono b2.size)
    go_wp2_with fail
    go_ret
    exact ⟨rfl, b1⟩
  by_cases b2 : nf > 100
  · have hn : decide ((100 : Int) < (n : Int)) = false := by simp; omega
    have hnm : decide ((100 : Int) < (nm : Int)) = false := by simp; omega
    have hnf : decide ((100 : Int) < (nf : Int)) = true := by simp; omega
    go_enter Try.func3, Try.ntmps3
    go_wp2_with (first
      | (refine wpList_box_blk (w := w) rfl 24 _ rfl #[.int .i64 K, .slice Am nm cm, .slice Af nf cf, .slice Ae ne ce] rfl ?_; intro u1 q1 g1 z1)
      | (refine wpList_box_blk (w := u1) rfl 26 _ rfl #[.bool co.d, .int .i64 co.k, .int .i64 co.v, .int .i64 co.s] rfl ?_; intro u2 q2 g2 z2; have q1 := q1.grown g2 (by simp); have b2 : Below w.heap.size w u2 := ((Below.refl _ w).grown g1 (Nat.le_refl _) (by simp)).grown g2 g1.size (by simp); have e1 := q1.cell (i := 1) rfl; have e2 := q1.cell (i := 2) rfl; have e3 := q1.cell (i := 3) rfl; clear g1 g2 z1 z2)
      | (refine wpList_run (w := u2) rfl (v := .pointer (some ⟨w.heap.size, 1, none⟩)) (Held.y_field (S := fun _ => True) (k := 1) (s := 0) rfl rfl Try.underlying24 rfl (by kernel_rfl) rfl _ trivial) ?_)
      | (refine wpList_run (w := u2) rfl (v := .pointer (some ⟨w.heap.size, 2, none⟩)) (Held.y_field (S := fun _ => True) (k := 2) (s := 0) rfl rfl Try.underlying24 rfl (by kernel_rfl) rfl _ trivial) ?_)
      | (refine wpList_run (w := u2) rfl (v := .pointer (some ⟨w.heap.size, 3, none⟩)) (Held.y_field (S := fun _ => True) (k := 3) (s := 0) rfl rfl Try.underlying24 rfl (by kernel_rfl) rfl _ trivial) ?_)
      | (refine wpList_run (w := u2) rfl (v := .bool false) (Held.y_gtr (S := fun _ => True) rfl rfl rfl hn _ trivial) ?_)
      | (refine wpList_run (w := u2) rfl (v := .bool false) (Held.y_gtr (S := fun _ => True) rfl rfl rfl hnm _ trivial) ?_)
      | (refine wpList_run (w := u2) rfl (v := .bool true) (Held.y_gtr (S := fun _ => True) rfl rfl rfl hnf _ trivial) ?_))
    refine (awake15_any u2).mono ?_
    rintro e w1 ⟨rfl, b1⟩
    have b1 := b2.trans (b1.mono b2.size)
    go_wp2_with fail
    go_ret
    exact ⟨rfl, b1⟩
  by_cases b3 : ne > 100
  · have hn : decide ((100 : Int) < (n : Int)) = false := by simp; omega
    have hnm : decide ((100 : Int) < (nm : Int)) = false := by simp; omega
    have hnf : decide ((100 : Int) < (nf : Int)) = false := by simp; omega
    have hne : decide ((100 : Int) < (ne : Int)) = true := by simp; omega
    go_enter Try.func3, Try.ntmps3
    go_wp2_with (first
      | (refine wpList_box_blk (w := w) rfl 24 _ rfl #[.int .i64 K, .slice Am nm cm, .slice Af nf cf, .slice Ae ne ce] rfl ?_; intro u1 q1 g1 z1)
      | (refine wpList_box_blk (w := u1) rfl 26 _ rfl #[.bool co.d, .int .i64 co.k, .int .i64 co.v, .int .i64 co.s] rfl ?_; intro u2 q2 g2 z2; have q1 := q1.grown g2 (by simp); have b2 : Below w.heap.size w u2 := ((Below.refl _ w).grown g1 (Nat.le_refl _) (by simp)).grown g2 g1.size (by simp); have e1 := q1.cell (i := 1) rfl; have e2 := q1.cell (i := 2) rfl; have e3 := q1.cell (i := 3) rfl; clear g1 g2 z1 z2)
      | (refine wpList_run (w := u2) rfl (v := .pointer (some ⟨w.heap.size, 1, none⟩)) (Held.y_field (S := fun _ => True) (k := 1) (s := 0) rfl rfl Try.underlying24 rfl (by kernel_rfl) rfl _ trivial) ?_)
      | (refine wpList_run (w := u2) rfl (v := .pointer (some ⟨w.heap.size, 2, none⟩)) (Held.y_field (S := fun _ => True) (k := 2) (s := 0) rfl rfl Try.underlying24 rfl (by kernel_rfl) rfl _ trivial) ?_)
      | (refine wpList_run (w := u2) rfl (v := .pointer (some ⟨w.heap.size, 3, none⟩)) (Held.y_field (S := fun _ => True) (k := 3) (s := 0) rfl rfl Try.underlying24 rfl (by kernel_rfl) rfl _ trivial) ?_)
      | (refine wpList_run (w := u2) rfl (v := .bool false) (Held.y_gtr (S := fun _ => True) rfl rfl rfl hn _ trivial) ?_)
      | (refine wpList_run (w := u2) rfl (v := .bool false) (Held.y_gtr (S := fun _ => True) rfl rfl rfl hnm _ trivial) ?_)
      | (refine wpList_run (w := u2) rfl (v := .bool false) (Held.y_gtr (S := fun _ => True) rfl rfl rfl hnf _ trivial) ?_)
      | (refine wpList_run (w := u2) rfl (v := .bool true) (Held.y_gtr (S := fun _ => True) rfl rfl rfl hne _ trivial) ?_))
    refine (awake15_any u2).mono ?_
    rintro e w1 ⟨rfl, b1⟩
    have b1 := b2.trans (b1.mono b2.size)
    go_wp2_with fail
    go_ret
    exact ⟨rfl, b1⟩
  have hn : decide ((100 : Int) < (n : Int)) = false := by simp; omega
  have hnm : decide ((100 : Int) < (nm : Int)) = false := by simp; omega
  have hnf : decide ((100 : Int) < (nf : Int)) = false := by simp; omega
  have hne : decide ((100 : Int) < (ne : Int)) = false := by simp; omega
  have ln : n ≤ 100 := by omega
  have lm : nm ≤ 100 := by omega
  have lf : nf ≤ 100 := by omega
  have le : ne ≤ 100 := by omega
  have HL := Lib.hid hr.1
  have HWA := Lib.hid hr.2.1
  clear b0 b1 b2 b3
  go_enter Try.func3, Try.ntmps3
  go_wp2_with (first
    | (refine wpList_box_blk (w := w) rfl 24 _ rfl #[.int .i64 K, .slice Am nm cm, .slice Af nf cf, .slice Ae ne ce] rfl ?_; intro u1 q1 g1 z1)
    | (refine wpList_box_blk (w := u1) rfl 26 _ rfl #[.bool co.d, .int .i64 co.k, .int .i64 co.v, .int .i64 co.s] rfl ?_; intro u2 q2 g2 z2; have q1 := q1.grown g2 (by simp); have b2 : Below w.heap.size w u2 := ((Below.refl _ w).grown g1 (Nat.le_refl _) (by simp)).grown g2 g1.size (by simp); have e1 := q1.cell (i := 1) rfl; have e2 := q1.cell (i := 2) rfl; have e3 := q1.cell (i := 3) rfl; clear g1 g2 z1 z2)
    | (refine wpList_run (w := u2) rfl (v := .pointer (some ⟨w.heap.size, 1, none⟩)) (Held.y_field (S := fun _ => True) (k := 1) (s := 0) rfl rfl Try.underlying24 rfl (by kernel_rfl) rfl _ trivial) ?_)
    | (refine wpList_run (w := u2) rfl (v := .pointer (some ⟨w.heap.size, 2, none⟩)) (Held.y_field (S := fun _ => True) (k := 2) (s := 0) rfl rfl Try.underlying24 rfl (by kernel_rfl) rfl _ trivial) ?_)
    | (refine wpList_run (w := u2) rfl (v := .pointer (some ⟨w.heap.size, 3, none⟩)) (Held.y_field (S := fun _ => True) (k := 3) (s := 0) rfl rfl Try.underlying24 rfl (by kernel_rfl) rfl _ trivial) ?_)
    | (refine wpList_run (w := u2) rfl (v := .bool false) (Held.y_gtr (S := fun _ => True) rfl rfl rfl hn _ trivial) ?_)
    | (refine wpList_run (w := u2) rfl (v := .bool false) (Held.y_gtr (S := fun _ => True) rfl rfl rfl hnm _ trivial) ?_)
    | (refine wpList_run (w := u2) rfl (v := .bool false) (Held.y_gtr (S := fun _ => True) rfl rfl rfl hnf _ trivial) ?_)
    | (refine wpList_run (w := u2) rfl (v := .bool false) (Held.y_gtr (S := fun _ => True) rfl rfl rfl hne _ trivial) ?_)
    | (refine wpList_build_blk rfl 26 #[(1, .const (.int .i64 71))] rfl #[.bool false, .int .i64 71, .int .i64 0, .int .i64 0] (by kernel_rfl) ?_))
  refine (own_any w.heap.size A n c rs f71 u2 (Recs.below hr b2) b2.size (by omega)).mono ?_
  rintro e u3 ⟨ga, rfl, hga, qa, b3⟩
  have q1 := q1.after b3
  have q2 := q2.after b3
  have b3 := b2.trans (b3.mono b2.size)
  clear b2 e1 e2 e3
  go_wp2_with (first
    | (refine wpList_load_blk (w := u3) rfl 24 _ rfl w.heap.size 4 rfl 24 _ q1 _ Try.underlying24 rfl info_prog rfl ?_)
    | (refine wpList_load_blk (w := u3) rfl 26 _ rfl u1.heap.size 4 rfl 26 _ q2 _ Try.underlying26 rfl info_rec rfl ?_))
  have hlq := recs_own qa HWA.out HL.out
  have hlr := recs_lst hr
  cases hC : checkB K lm_ lf_ le_ with
  | true =>
    have HLT := Lib.hid ((outs_length (F := foldV K lm_ lf_ le_) (G := finishV K lm_ lf_ le_) (bareR co) rs).trans hr.1)
    have HXW := Lib.hid (outs_wf (fun a b ha hb => Sp.foldV_wf (K := K) (m := lm_) (e := le_) hf.2.1 a b ha hb) (fun a b ha hb => Sp.finishV_wf (K := K) (m := lm_) (f := lf_) he.2.1 a b ha hb) (bareR co) rs (bare_wf hco) hr.2.1)
    refine (step_any w.heap.size u3.heap.size K Am Af Ae _ nm cm nf cf ne ce n (n + 3) lm_ lf_ le_ co rs u3 (hm.below b3) (hf.below b3) (he.below b3) hlq b3.size (Nat.le_refl _) (by omega) hC hco).mono ?_
    rintro e u4 ⟨vx, rfl, ox, b4⟩
    obtain ⟨Ax, cx, rfl, _⟩ := OwnL.form ox
    have lx := OwnL.lst ox HXW.out
    rw [HLT.out] at lx
    rw [HLT.out]
    generalize hE : ends (foldV K lm_ lf_ le_) (bareR co) rs = E
    obtain ⟨ed, ek, ev, es⟩ := E
    have q1 := q1.after b4
    have q2 := q2.after b4
    have qa := qa.after b4
    have b4 := b3.trans (b4.mono b3.size)
    clear b3 hlq ox
    have l1 : w.heap.size < u4.heap.size := q1.lt
    go_wp2_with (first
      | (refine wpList_alloc_blk (w := u4) rfl 26 rfl _ zero_rec ?_; intro u5 q5 g5 z5)
      | (refine wpList_store_blk (w := u5) rfl 26 _ _ rfl u4.heap.size 4 rfl 26 _ #[.bool ed, .int .i64 ek, .int .i64 ev, .int .i64 es] rfl q5 info_rec rfl rfl (by kernel_rfl) ?_; intro u6 q6 g6 z6; have b6 : Below u4.heap.size u4 u6 := ((Below.refl _ u4).grown g5 (Nat.le_refl _) (by simp)).grown g6 g5.size (fun r e => by cases e; exact Nat.le_refl _); have q1 := q1.after b6; have q2 := q2.after b6; have qa := qa.after b6; have lx := (Lst.below lx b6).more b6.size; have b6 := b4.trans (b6.mono b4.size); clear q5 g5 g6 z5 z6)
      | (refine wpList_load_blk (w := u6) rfl 24 _ rfl w.heap.size 4 rfl 24 _ q1 _ Try.underlying24 rfl info_prog rfl ?_)
      | (refine wpList_load_blk (w := u6) rfl 26 _ rfl u1.heap.size 4 rfl 26 _ q2 _ Try.underlying26 rfl info_rec rfl ?_))
    refine (rstep_any w.heap.size w.heap.size K Am Af Ae A nm cm nf cf ne ce n c lm_ lf_ le_ co rs u6 (hm.below b6) (hf.below b6) (he.below b6) (hlr.below b6) b6.size b6.size (by omega) hC hco (by omega) (by omega) (by omega)).mono ?_
    rintro e u7 ⟨vy, rfl, oy, b7⟩
    obtain ⟨Ay, cy, rfl, _⟩ := OwnL.form oy
    have ly := OwnL.lst oy HXW.out
    rw [HLT.out] at ly
    rw [HLT.out, hE]
    have lx := (Lst.below lx b7).more b7.size
    have q6 := q6.after b7
    have qa := qa.after b7
    have b7 := b6.trans (b7.mono b6.size)
    clear q1 q2 b6 b4 oy hE
    go_wp2_with (first
      | (refine wpList_alloc_blk (w := u7) rfl 26 rfl _ zero_rec ?_; intro u8 q8 g8 z8)
      | (refine wpList_store_blk (w := u8) rfl 26 _ _ rfl u7.heap.size 4 rfl 26 _ #[.bool ed, .int .i64 ek, .int .i64 ev, .int .i64 es] rfl q8 info_rec rfl rfl (by kernel_rfl) ?_; intro u9 q9 g9 z9; have b9 : Below u7.heap.size u7 u9 := ((Below.refl _ u7).grown g8 (Nat.le_refl _) (by simp)).grown g9 g8.size (fun r e => by cases e; exact Nat.le_refl _); have q6 := q6.after b9; have qa := qa.after b9; have lx := (Lst.below lx b9).more b9.size; have ly := (Lst.below ly b9).more b9.size; have b9 := b7.trans (b9.mono b7.size); clear q8 g8 g9 z8 z9))
    refine (awake15_any u9).mono ?_
    rintro e ua ⟨rfl, ba⟩
    have lx := (Lst.below lx ba).more ba.size
    have ly := (Lst.below ly ba).more ba.size
    have q6 := q6.after ba
    have q9 := q9.after ba
    have qa := qa.after ba
    have ba := b9.trans (ba.mono b9.size)
    clear b9 b7
    go_wp2_with fail
    refine (Rs.plain_any ua.heap.size ua.heap.size Ax Ay n n cx cy _ _ ua (lst_recs lx) (lst_recs ly) (Nat.le_refl _) (Nat.le_refl _) (by omega) (by omega)).mono ?_
    rintro e ub ⟨rfl, bb⟩
    rw [show decide ((outs (foldV K lm_ lf_ le_) (finishV K lm_ lf_ le_) (bareR co) rs) = (outs (foldV K lm_ lf_ le_) (finishV K lm_ lf_ le_) (bareR co) rs)) = true by simp]
    have q6 := q6.after bb
    have q9 := q9.after bb
    have qa := qa.after bb
    have bb := ba.trans (bb.mono ba.size)
    clear ba
    go_wp2_with (first
      | (refine wpList_load_blk (w := ub) rfl 26 _ rfl u4.heap.size 4 rfl 26 _ q6 _ Try.underlying26 rfl info_rec rfl ?_)
      | (refine wpList_load_blk (w := ub) rfl 26 _ rfl u7.heap.size 4 rfl 26 _ q9 _ Try.underlying26 rfl info_rec rfl ?_)
      | (refine wpList_run (w := ub) rfl (v := .bool true) (y_eqr (S := fun _ => True) rfl rfl rfl (by simp) _ trivial) ?_)
      | (refine wpList_build_blk rfl 26 #[(1, .const (.int .i64 71))] rfl #[.bool false, .int .i64 71, .int .i64 0, .int .i64 0] (by kernel_rfl) ?_))
    refine (kept_any w.heap.size A n c ga rs f71 ub (Recs.below hr bb) bb.size (by omega) qa).mono ?_
    rintro e uc ⟨rfl, bc⟩
    have bc := bb.trans (bc.mono bb.size)
    go_wp2_with fail
    go_ret
    exact ⟨rfl, bc⟩
  | false =>
    refine (step_bad w.heap.size K Am Af Ae _ nm cm nf cf ne ce n (n + 3) lm_ lf_ le_ co u3 (hm.below b3) (hf.below b3) (he.below b3) b3.size hC).mono ?_
    rintro e u4 ⟨rfl, b4⟩
    have q1 := q1.after b4
    have q2 := q2.after b4
    have qa := qa.after b4
    have b4 := b3.trans (b4.mono b3.size)
    clear b3 hlq
    have l1 : w.heap.size < u4.heap.size := q1.lt
    go_wp2_with (first
      | (refine wpList_alloc_blk (w := u4) rfl 26 rfl _ zero_rec ?_; intro u5 q5 g5 z5)
      | (refine wpList_store_blk (w := u5) rfl 26 _ _ rfl u4.heap.size 4 rfl 26 _ #[.bool true, .int .i64 0, .int .i64 0, .int .i64 0] rfl q5 info_rec rfl rfl (by kernel_rfl) ?_; intro u6 q6 g6 z6; have b6 : Below u4.heap.size u4 u6 := ((Below.refl _ u4).grown g5 (Nat.le_refl _) (by simp)).grown g6 g5.size (fun r e => by cases e; exact Nat.le_refl _); have q1 := q1.after b6; have q2 := q2.after b6; have qa := qa.after b6; have b6 := b4.trans (b6.mono b4.size); clear q5 g5 g6 z5 z6)
      | (refine wpList_load_blk (w := u6) rfl 24 _ rfl w.heap.size 4 rfl 24 _ q1 _ Try.underlying24 rfl info_prog rfl ?_)
      | (refine wpList_load_blk (w := u6) rfl 26 _ rfl u1.heap.size 4 rfl 26 _ q2 _ Try.underlying26 rfl info_rec rfl ?_))
    refine (rstep_bad w.heap.size K Am Af Ae A nm cm nf cf ne ce n c lm_ lf_ le_ co u6 (hm.below b6) (hf.below b6) (he.below b6) b6.size hC (by omega) (by omega) (by omega)).mono ?_
    rintro e u7 ⟨rfl, b7⟩
    have q6 := q6.after b7
    have qa := qa.after b7
    have b7 := b6.trans (b7.mono b6.size)
    clear q1 q2 b6 b4
    go_wp2_with (first
      | (refine wpList_alloc_blk (w := u7) rfl 26 rfl _ zero_rec ?_; intro u8 q8 g8 z8)
      | (refine wpList_store_blk (w := u8) rfl 26 _ _ rfl u7.heap.size 4 rfl 26 _ #[.bool true, .int .i64 0, .int .i64 0, .int .i64 0] rfl q8 info_rec rfl rfl (by kernel_rfl) ?_; intro u9 q9 g9 z9; have b9 : Below u7.heap.size u7 u9 := ((Below.refl _ u7).grown g8 (Nat.le_refl _) (by simp)).grown g9 g8.size (fun r e => by cases e; exact Nat.le_refl _); have q6 := q6.after b9; have qa := qa.after b9; have b9 := b7.trans (b9.mono b7.size); clear q8 g8 g9 z8 z9))
    refine (awake15_any u9).mono ?_
    rintro e ua ⟨rfl, ba⟩
    have q6 := q6.after ba
    have q9 := q9.after ba
    have qa := qa.after ba
    have ba := b9.trans (ba.mono b9.size)
    clear b9 b7
    go_wp2_with fail
    refine (Rs.plain_any ua.heap.size ua.heap.size none none 0 0 0 0 [] [] ua (Recs.nil _ _ _) (Recs.nil _ _ _) (Nat.le_refl _) (Nat.le_refl _) (by omega) (by omega)).mono ?_
    rintro e ub ⟨rfl, bb⟩
    rw [show decide (([] : List R) = ([] : List R)) = true by simp]
    have q6 := q6.after bb
    have q9 := q9.after bb
    have qa := qa.after bb
    have bb := ba.trans (bb.mono ba.size)
    clear ba
    go_wp2_with (first
      | (refine wpList_load_blk (w := ub) rfl 26 _ rfl u4.heap.size 4 rfl 26 _ q6 _ Try.underlying26 rfl info_rec rfl ?_)
      | (refine wpList_load_blk (w := ub) rfl 26 _ rfl u7.heap.size 4 rfl 26 _ q9 _ Try.underlying26 rfl info_rec rfl ?_)
      | (refine wpList_run (w := ub) rfl (v := .bool true) (y_eqr (S := fun _ => True) rfl rfl rfl (by simp) _ trivial) ?_)
      | (refine wpList_build_blk rfl 26 #[(1, .const (.int .i64 71))] rfl #[.bool false, .int .i64 71, .int .i64 0, .int .i64 0] (by kernel_rfl) ?_))
    refine (kept_any w.heap.size A n c ga rs f71 ub (Recs.below hr bb) bb.size (by omega) qa).mono ?_
    rintro e uc ⟨rfl, bc⟩
    have bc := bb.trans (bc.mono bb.size)
    go_wp2_with fail
    go_ret
    exact ⟨rfl, bc⟩
theorem walk (K0 : Int) (Am0 : Option Addr) (nm0 cm0 : Nat) (lm0 : List Vm.O) (Af0 : Option Addr) (nf0 cf0 : Nat) (lf0 : List Vm.O) (Ae0 : Option Addr) (ne0 ce0 : Nat) (le0 : List Vm.O) (rd1 : Bool) (rk1 rv1 rs1 : Int) (A2 : Option Addr) (m2 c2 : Nat) (rs2 : List Rs.R) (w : World) (wK0 : (Lit.int .i64 K0).wf = true) (hm0 : Sl.Lst Vm.kO w w.heap.size Am0 nm0 lm0 ∧ nm0 ≤ cm0 ∧ cm0 ≤ maxLen) (hf0 : Sl.Lst Vm.kO w w.heap.size Af0 nf0 lf0 ∧ nf0 ≤ cf0 ∧ cf0 ≤ maxLen) (he0 : Sl.Lst Vm.kO w w.heap.size Ae0 ne0 le0 ∧ ne0 ≤ ce0 ∧ ce0 ≤ maxLen) (wk1 : (Lit.int .i64 rk1).wf = true) (wv1 : (Lit.int .i64 rv1).wf = true) (ws1 : (Lit.int .i64 rs1).wf = true) (hr2 : Rs.Recs w w.heap.size A2 m2 rs2) (hc2 : m2 ≤ c2 ∧ c2 ≤ maxLen) :
    Calls Try.prog 3 #[.agg #[.int .i64 K0, .slice Am0 nm0 cm0, .slice Af0 nf0 cf0, .slice Ae0 ne0 ce0], .agg #[.bool rd1, .int .i64 rk1, .int .i64 rv1, .int .i64 rs1], .slice A2 m2 c2] w fun e w' => e = .returned (.bool true) ∧ Below w.heap.size w w' := by
  exact start K0 Am0 Af0 Ae0 A2 nm0 cm0 nf0 cf0 ne0 ce0 m2 c2 lm0 lf0 le0 ⟨rd1, rk1, rv1, rs1⟩ rs2 w hm0.1 hf0.1 he0.1 hr2 ⟨wk1, wv1, ws1⟩
set_option maxRecDepth 100000 in
theorem lifted (os : Os) (started : os.Started) (H : Type) (enc : TypeId × Value → H) :
    ReturnsInHanded {} Try.checked os 3 .any (Rows.chainStepsSpec.pre6 enc Try.prog Try.f3 Rows.chainStepsRow.domain false) (Rows.chainStepsSpec.post enc Try.prog Try.f3 false true false false) := by
  refine returnsInHanded_of_change (C := Try.checked) own started (by kernel_rfl) Try.func3
    (ChangeSpec.witness6 (enc := enc) (C := Try.checked) false ⟨#[], #[.agg #[.int .i64 0, .slice none 0 0, .slice none 0 0, .slice none 0 0], .agg #[.bool false, .int .i64 0, .int .i64 0, .int .i64 0], .slice none 0 0], []⟩ 8 (by kernel_rfl) (by kernel_rfl) (by kernel_rfl) (by kernel_rfl)) ?_
  intro W base args ds gs before hval0 hW hcnd _
  have hval : ∀ (j : Nat) t v, Try.f3.params[j]? = some t → args[j]? = some v → Value.okWide Try.prog W .any base t v := hval0
  have hW' := hW
  obtain ⟨p, q, hA0, hV, rfl, hfz, hnd⟩ := hW
  have hA : DataW.TrodAll enc Try.prog W 0 (fun _ => true) true Try.f3.params.toList args.toList ds p := hA0
  rw [Try.params3] at hA hval
  obtain ⟨v0, vs0, d0, ds0, p0, q0, hargs, rfl, rfl, h0, r0⟩ := trodAll_cons hA
  obtain ⟨v1, vs1, d1, ds1, p1, q1, rfl, rfl, rfl, h1, r1⟩ := trodAll_cons r0
  obtain ⟨v2, vs2, d2, ds2, p2, q2, rfl, rfl, rfl, h2, r2⟩ := trodAll_cons r1
  obtain ⟨rfl, rfl, rfl⟩ := trodAll_nil r2
  obtain rfl : args = #[v0, v1, v2] := by cases args; simp_all
  obtain ⟨rfl, rfl⟩ := trodVars_none hV
  have kk0 := h0
  have lt0 : ∀ x ∈ p0, x.block < W.heap.size := by obtain ⟨m, hm⟩ := kk0; exact DataW.trod_lt m _ _ _ hm
  obtain ⟨K0, Am0, nm0, cm0, lm0, Af0, nf0, cf0, lf0, Ae0, ne0, ce0, le0, rfl, wK0, hm0, hf0, he0⟩ := Vm.open_prog (hval 0 24 v0 rfl rfl) h0
  have kk1 := h1
  have lt1 : ∀ x ∈ p1, x.block < W.heap.size := by obtain ⟨m, hm⟩ := kk1; exact DataW.trod_lt m _ _ _ hm
  obtain ⟨rd1, rk1, rv1, rs1, rfl, wk1, wv1, ws1⟩ := Rc.open_rec (hval 1 26 v1 rfl rfl) h1
  obtain ⟨A2, m2, c2, rfl⟩ := okWide_slice Try.underlying27 (hval 2 27 v2 rfl rfl)
  have kk2 := h2
  have lt2 : ∀ x ∈ p2, x.block < W.heap.size := by obtain ⟨m, hm⟩ := kk2; exact DataW.trod_lt m _ _ _ hm
  obtain ⟨rs2, hr2, hc2⟩ := Rs.open_recs h2
  clear hA0 hval0
  refine (walk K0 Am0 nm0 cm0 lm0 Af0 nf0 cf0 lf0 Ae0 ne0 ce0 le0 rd1 rk1 rv1 rs1 A2 m2 c2 rs2 W wK0 hm0 hf0 he0 wk1 wv1 ws1 hr2 hc2).mono fun e W' ⟨he, bel⟩ => ?_
  subst he
  exact ⟨_, rfl, _, _, _, [], _, [], hW', trodAll_mk1 (shut_bool Try.underlying4 _), (trodAll_cons_mk (Below.trod laidOut (by kernel_rfl) (of_decide_eq_true (by kernel_rfl)) kk0 bel lt0) (trodAll_cons_mk (Below.trod laidOut (by kernel_rfl) (of_decide_eq_true (by kernel_rfl)) kk1 bel lt1) (trodAll_cons_mk (Below.trod laidOut (by kernel_rfl) (of_decide_eq_true (by kernel_rfl)) kk2 bel lt2) trodAll_mk0))), rfl, bel.frame _, fun h => by cases h⟩
theorem over : Rows.chainStepsRow.holds Try.pinned (OpenSpec.ofChange Rows.chainStepsSpec) :=
  OpenClaim.holds_of_wide 3 Try.f3 rfl rfl rfl rfl rfl rfl rfl ⟨rfl, rfl, rfl, rfl, rfl⟩ rfl rfl rfl rfl rfl (by kernel_rfl) Try.func3 (by kernel_rfl)
    (of_decide_eq_true (by kernel_rfl)) (by unfold Func.isWrapper; first | (rw [if_pos (by decide +kernel)]; kernel_rfl) | (rw [if_neg (by decide +kernel)]; exact ⟨rfl, rfl⟩))
    (fun os started H enc _ => lifted os started H enc)
theorem proved : Rows.ChainStepsSaid :=
  over
#print axioms proved
end Go.Proofs.Ytkiempdpfmolfaa.chainSteps
