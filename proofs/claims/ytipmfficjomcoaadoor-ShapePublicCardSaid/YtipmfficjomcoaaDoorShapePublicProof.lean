/-
  The law ShapePublic of package dominolaw17 returns true for all public numbers and every number: how many workers there are, and whether the last block is full, plays no part in what there is to do.
-/
import Derived.Test.YtipmfficjomcoaaDoorRows
import Derived.Test.YtipmfficjomcoaaDoorCards
import Derived.Test.YtipmfficjomcoaaDoorTie
import Derived.SevenTiedAt
import Derived.WalkKit
import Derived.ProofKit
import Derived.OpenShut
import Derived.ShutString
import Derived.ChangeOld
import Derived.Below
import Derived.LaidMore
import Derived.Stop.Joined
import Derived.Test.YtipmfficjomcoaaDoorB10
import Derived.Test.YtipmfficjomcoaaDoorB11
import Derived.Test.YtipmfficjomcoaaDoorB4
namespace Go.Proofs.YtipmfficjomcoaaDoor.shapePublic
open Go.ChangeShapes Go.WideShapes Go.ChangeAt Go.RowKit
open Go.ChangeMaps (open_string shut_string)
open Go.Shelf Go.Proofs.YtipmfficjomcoaaDoor Mem Held Go.Proofs.YtipmfficjomcoaaDoor.Range Rs Sl Sh
theorem own : ownKnob Tryd.prog.godebug = none := by kernel_rfl
theorem laidOut : laidOutB Tryd.prog = true := by kernel_rfl
def laidList : List (String × DataW Unit) := [("math/bits.deBruijn32tab", Rows.laid_math_bits_deBruijn32tab), ("math/bits.deBruijn64tab", Rows.laid_math_bits_deBruijn64tab)]
attribute [local irreducible] wpList wpListIn Calls
attribute [local go_sem] Oper.semAt_some
theorem wf_says {z : Int} (h : (Lit.int .i64 z).wf = true) : -9223372036854775808 ≤ z ∧ z ≤ 9223372036854775807 := by
  simp [Lit.wf, IntKind.min, IntKind.max, IntKind.signed, IntKind.bits] at h
  omega
theorem other (x : Int) : ∃ (N : Int) (a v : Nat), IntKind.u64.wrap x = N ∧ N.tmod 4 = (a : Int) ∧ IntKind.i64.wrap (a : Int) = (a : Int) ∧ IntKind.i64.wrap (1 + (a : Int)) = (v : Int) ∧ 1 ≤ v ∧ v ≤ 4 := by
  obtain ⟨N, hN⟩ : ∃ N : Int, IntKind.u64.wrap x = N := ⟨_, rfl⟩
  have hN0 : 0 ≤ N := by rw [← hN, IntKind.wrap_u64]; omega
  refine ⟨N, (N % 4).toNat, (N % 4).toNat + 1, hN, ?_, ?_, ?_, by omega, by omega⟩
  · rw [Int.tmod_eq_emod_of_nonneg hN0]; omega
  · rw [IntKind.wrap_i64]; omega
  · rw [IntKind.wrap_i64]; omega
theorem same_job {x k b wk v : Int} (h : Sp.rightB x k b wk = true) (h2 : Sp.rightB ((x + b - 1) / b * b) k b v = true) : inN ((x + b - 1) / b * b) k b v = inN x k b wk ∧ mpN ((x + b - 1) / b * b) k b v = mpN x k b wk ∧ mN ((x + b - 1) / b * b) k b v = mN x k b wk ∧ tN ((x + b - 1) / b * b) k b v = tN x k b wk := by
  obtain ⟨_, _, ⟨hb1, hb8⟩, _⟩ := right_says h
  have e : ((x + b - 1) / b * b + b - 1) / b = (x + b - 1) / b := by
    generalize (x + b - 1) / b = q
    rw [show q * b + b - 1 = (b - 1) + q * b by omega, Int.add_mul_ediv_right _ _ (by omega), Int.ediv_eq_zero_of_lt (by omega) (by omega), Int.zero_add]
  have eM : mN ((x + b - 1) / b * b) k b v = mN x k b wk := by rw [mN, mN, if_pos h, if_pos h2, e]
  refine ⟨by rw [inN, inN, if_pos h, if_pos h2, e], by rw [mpN, mpN, if_pos h, if_pos h2, e], eM, by rw [tN, tN, eM]⟩
theorem op_store_field {P : Program} {ops : Array Oper} {Q : Exit → Act → World → Prop} (i : Nat) (d : Option Tmp) {o : Oper} {a : Act} {w : World} {K : Act → World → Prop} (ty : TypeId) {x y : Operand} (g j : Nat) (t : TypeId) (cs : Array Value) (v : Value) (hi : ops[i]? = some o) (hd : o.dst = d) (hw : Region.wanted o (yielded ops a.tmps) = true)
    (ho : o.op = .store ty x y) (hx : a.eval x = .pointer (some ⟨g, j, none⟩)) (hy : a.eval y = v) (hb : Blk w g t cs) (hj : j < cs.size) (hsz : (P.info? ty).map (·.size) = some 1) (h1 : v.cells = #[v]) (ho1 : v.oneCell' = true)
    (h : ∀ w', Blk w' g t (cs.setIfInBounds j v) → w.grownBy w' (some g) → K (a.put d undef) w') : wpOp P ops Q i K a w := by
  subst hd
  refine op_wp i hi hw ?_
  unfold Oper.wp execOp
  simp only [ho, hx, hy, Instr.storeAt, Instr.sureAddr, Sem.run_bind, Sem.run_pure, Result.andThen_ok, run_store_elem ty g j _ v (hb.cell (Array.getElem?_eq_getElem hj)) (hb.frozen j) hsz h1 ho1]
  exact h _ (hb.set j v) (grown_setCell _ _ _ _)
set_option maxRecDepth 100000 in
set_option maxHeartbeats 16000000 in
theorem start (r k b wk num : Int) (w : World) (hk0 : -9223372036854775808 ≤ k) (hk1 : k ≤ 9223372036854775807) (hT : Bi.TzT w) :
    Calls Tryd.prog 7 #[.agg #[.int .i64 r, .int .i64 k, .int .i64 b, .int .i64 wk], .int .i64 num] w fun e w' => e = .returned (.bool true) ∧ Below w.heap.size w w' := by
  have hTw := hT.lt
  obtain ⟨N, a, v, e1, e2, e3, e4, hv1, hv4⟩ := other num
  go_enter Tryd.func7, Tryd.ntmps7
  go_wp2_with (first
    | (refine wpList_box_blk (w := w) rfl 23 _ rfl _ rfl ?_; intro u1 qu1 gu1 zu1; have bo1 : Below w.heap.size w u1 := (Below.refl _ w).grown gu1 (Nat.le_refl _) (by simp))
    | (refine wpList_load_blk (w := u1) rfl 23 _ rfl (w.heap.size) 4 rfl 23 _ qu1 _ Tryd.underlying23 rfl (by kernel_rfl) rfl ?_))
  refine (few_any r k b wk u1).mono ?_
  rintro e w2 ⟨x, rfl, hF, b2⟩
  have q2 := qu1.after b2
  have bo2 := bo1.trans (b2.mono bo1.size)
  have hs2 := bo2.size
  clear hF b2 qu1 gu1 zu1 bo1
  go_wp2_with (first
    | (refine wpList_store_blk (w := w2) rfl 23 _ _ rfl (w.heap.size) 4 rfl 23 _ #[.int .i64 x, .int .i64 k, .int .i64 b, .int .i64 wk] rfl q2 (by kernel_rfl) rfl rfl (by kernel_rfl) ?_; intro u3 qu3 gu3 zu3; have bo3 := bo2.grown gu3 hs2 (fun r e => by cases e; exact Nat.le_refl _))
    | (refine wpList_load_blk (w := u3) rfl 23 _ rfl (w.heap.size) 4 rfl 23 _ qu3 _ Tryd.underlying23 rfl (by kernel_rfl) rfl ?_))
  refine (rright_any x k b wk u3).mono ?_
  rintro e w4 ⟨rfl, b4⟩
  have q4 := qu3.after b4
  have bo4 := bo3.trans (b4.mono bo3.size)
  have hs4 := bo4.size
  clear b4 qu3 gu3 zu3 bo3 q2 bo2 hs2
  by_cases hR : Sp.rightB x k b wk = true
  case neg =>
    rw [show Sp.rightE x k b wk = 1 by rw [Sp.rightE, if_neg hR]]
    have HN := Lib.hid (fun W hT => count_any x k b wk hk0 hk1 W hT)
    have hl := tasks_length (job_of (r := x) (b := b) (wk := wk) hk0 hk1)
    have eI : inN x k b wk = 0 := by rw [inN, if_neg hR]
    have ep : mpN x k b wk = 0 := by rw [mpN, if_neg hR]
    have eM : mN x k b wk = 0 := by rw [mN, if_neg hR]
    rw [eI, ep, eM] at hl HN
    have h0 : (tasksT 0 0 0 (tN x k b wk)).length = 0 := by rw [hl]; simp [cnK, szK]
    rw [h0] at HN
    clear hl eI ep eM h0 hR
    go_wp2_with fail
    refine (awake17_any _ (hT.below bo4 hTw)).mono ?_
    rintro e w5 ⟨rfl, b5⟩
    have q5 := q4.after b5
    have bo5 := bo4.trans (b5.mono hs4)
    go_wp2_with (first
      | (refine wpList_load_blk (w := w5) rfl 23 _ rfl (w.heap.size) 4 rfl 23 _ q5 _ Tryd.underlying23 rfl (by kernel_rfl) rfl ?_))
    refine (HN.out w5 (hT.below bo5 hTw)).mono ?_
    rintro e w6 ⟨rfl, b6⟩
    have bo6 := bo5.trans (b6.mono bo5.size)
    go_wp2_with fail
    go_ret
    exact ⟨rfl, bo6⟩
  case pos =>
    rw [show Sp.rightE x k b wk = 0 by rw [Sp.rightE, if_pos hR]]
    have hs := right_says hR
    have hk := hs.2.1
    have hb := hs.2.2.1
    have hx := hs.1
    have hq64 := hs.2.2.2.2.1
    have hb0 : b ≠ 0 := by omega
    have HRX := Lib.hid hR
    obtain ⟨q, hq⟩ : ∃ q, (x + b - 1) / b = q := ⟨_, rfl⟩
    rw [hq] at hq64
    have hqb : q * b ≤ 64 * 8 := Int.mul_le_mul hq64.2 hb.2 (by omega) (by omega)
    have hqb0 : 0 ≤ q * b := Int.mul_nonneg (by omega) (by omega)
    have HQ := Lib.hid hq
    have E1 := Lib.hid (show IntKind.i64.wrap (x + b) = x + b by rw [IntKind.wrap_i64]; omega)
    have E2 := Lib.hid (show IntKind.i64.wrap (x + b - 1) = x + b - 1 by rw [IntKind.wrap_i64]; omega)
    have E3 := Lib.hid (show IntKind.i64.wrap ((x + b - 1).tdiv b) = q by
      rw [show (x + b - 1).tdiv b = (x + b - 1) / b from Int.tdiv_eq_ediv_of_nonneg (by omega), hq, IntKind.wrap_i64]; omega)
    have E4 := Lib.hid (show IntKind.i64.wrap (q * b) = q * b by rw [IntKind.wrap_i64]; omega)
    clear hs hR hq
    go_wp2_with (first
      | (refine wpList_load_blk (w := w4) rfl 23 _ rfl (w.heap.size) 4 rfl 23 _ q4 _ Tryd.underlying23 rfl (by kernel_rfl) rfl ?_)
      | (refine wpList_alloc_blk (w := w4) rfl 23 rfl #[.int .i64 0, .int .i64 0, .int .i64 0, .int .i64 0] (by kernel_rfl) ?_; intro u5 qu5 gu5 zu5; have qp5 := q4.grown gu5 (by simp))
      | (refine wpList_store_blk (w := u5) rfl 23 _ _ rfl (w4.heap.size) 4 rfl 23 _ #[.int .i64 x, .int .i64 k, .int .i64 b, .int .i64 wk] rfl qu5 (by kernel_rfl) rfl rfl (by kernel_rfl) ?_; intro u6 qu6 gu6 zu6; have hlp := q4.lt; have qp6 := qp5.grown gu6 (by intro e; injection e with e; omega))
      | (refine wpList_fld0 (w := u6) rfl rfl rfl Tryd.underlying23 rfl (by kernel_rfl) ?_)
      | (refine Held.wpList_store_field (w := u6) rfl 3 _ _ rfl w4.heap.size 3 rfl 23 _ (.int .i64 (v : Int)) rfl qu6 (by simp) (by kernel_rfl) rfl rfl ?_; intro u7 qq7 g7 z7; have qp7 := qp6.grown g7 (by intro e; injection e with e; omega)))
    have qq7 : Blk u7 w4.heap.size 23 #[.int .i64 x, .int .i64 k, .int .i64 b, .int .i64 (v : Int)] := qq7
    have bo7 := ((bo4.grown gu5 hs4 (by simp)).grown gu6 (Nat.le_trans hs4 gu5.size) (fun r e => by cases e; exact hs4)).grown g7 (Nat.le_trans hs4 (Nat.le_trans gu5.size gu6.size)) (fun r e => by cases e; exact hs4)
    obtain ⟨g2, hg2⟩ : ∃ g, w4.heap.size = g := ⟨_, rfl⟩
    rw [hg2] at qq7 hs4 hlp ⊢
    have hs7 := bo7.size
    clear gu5 gu6 g7 z7 zu5 zu6 qu5 qu6 qp5 qp6 bo4 q4 hg2 e1 e2 e3 e4
    refine wp_region_bar (T := fun X => Blk X w.heap.size 23 #[.int .i64 x, .int .i64 k, .int .i64 b, .int .i64 wk] ∧ Blk X g2 23 #[.int .i64 x, .int .i64 k, .int .i64 b, .int .i64 (v : Int)]) (s := 13) (by kernel_rfl) ?_
    change wpAnyB _ _ _ _ _ _ _ _ _ u7.drew
    have T0 : (fun X => Blk X w.heap.size 23 #[.int .i64 x, .int .i64 k, .int .i64 b, .int .i64 wk] ∧ Blk X g2 23 #[.int .i64 x, .int .i64 k, .int .i64 b, .int .i64 (v : Int)]) u7.drew := ⟨qp7.after (Below.refl u7.heap.size u7).drew, qq7.after (Below.refl u7.heap.size u7).drew⟩
    refine Held.takeB (v := .pointer (some ⟨w.heap.size, 0, none⟩)) 0 (some 30) [13] rfl rfl (by kernel_rfl) (by kernel_rfl) (by kernel_rfl) (by kernel_rfl) (fun _ _ _ h => h) rfl (Held.y_field (k := 0) (s := 0) rfl rfl Tryd.underlying23 rfl (by kernel_rfl) rfl) T0 ?_
    simp only [Act.put, Z1, Z2, Z3]
    refine Held.takeB (v := .int .i64 x) 1 (some 31) [13] rfl rfl (by kernel_rfl) (by kernel_rfl) (by kernel_rfl) (by kernel_rfl) (fun _ _ _ h => h) rfl (Held.y_load rfl rfl (by kernel_rfl) (fun W hW => (hW.1).cell rfl)) T0 ?_
    simp only [Act.put, Z1, Z2, Z3]
    refine Held.takeB (v := .pointer (some ⟨w.heap.size, 2, none⟩)) 2 (some 32) [13] rfl rfl (by kernel_rfl) (by kernel_rfl) (by kernel_rfl) (by kernel_rfl) (fun _ _ _ h => h) rfl (Held.y_field (k := 2) (s := 0) rfl rfl Tryd.underlying23 rfl (by kernel_rfl) rfl) T0 ?_
    simp only [Act.put, Z1, Z2, Z3]
    refine Held.takeB (v := .int .i64 b) 3 (some 33) [13] rfl rfl (by kernel_rfl) (by kernel_rfl) (by kernel_rfl) (by kernel_rfl) (fun _ _ _ h => h) rfl (Held.y_load rfl rfl (by kernel_rfl) (fun W hW => (hW.1).cell rfl)) T0 ?_
    simp only [Act.put, Z1, Z2, Z3]
    refine Held.takeB (v := .int .i64 ((x + b))) 4 (some 34) [13] rfl rfl (by kernel_rfl) (by kernel_rfl) (by kernel_rfl) (by kernel_rfl) (fun _ _ _ h => h) rfl (Held.y_int rfl rfl rfl (Held.run_add 3 .i64 (E1.out))) T0 ?_
    simp only [Act.put, Z1, Z2, Z3]
    refine Held.takeB (v := .int .i64 ((x + b - 1))) 5 (some 35) [13] rfl rfl (by kernel_rfl) (by kernel_rfl) (by kernel_rfl) (by kernel_rfl) (fun _ _ _ h => h) rfl (Held.y_int rfl rfl rfl (Held.run_sub 3 .i64 (E2.out))) T0 ?_
    simp only [Act.put, Z1, Z2, Z3]
    refine Held.takeB (v := .pointer (some ⟨w.heap.size, 2, none⟩)) 6 (some 36) [13] rfl rfl (by kernel_rfl) (by kernel_rfl) (by kernel_rfl) (by kernel_rfl) (fun _ _ _ h => h) rfl (Held.y_field (k := 2) (s := 0) rfl rfl Tryd.underlying23 rfl (by kernel_rfl) rfl) T0 ?_
    simp only [Act.put, Z1, Z2, Z3]
    refine Held.takeB (v := .int .i64 b) 7 (some 37) [13] rfl rfl (by kernel_rfl) (by kernel_rfl) (by kernel_rfl) (by kernel_rfl) (fun _ _ _ h => h) rfl (Held.y_load rfl rfl (by kernel_rfl) (fun W hW => (hW.1).cell rfl)) T0 ?_
    simp only [Act.put, Z1, Z2, Z3]
    refine Held.takeB (v := .int .i64 q) 8 (some 38) [13] rfl rfl (by kernel_rfl) (by kernel_rfl) (by kernel_rfl) (by kernel_rfl) (fun _ _ _ h => h) rfl (Bi.y_quo (x + b - 1) b rfl rfl rfl (Held.run_quo 3 .i64 hb0 E3.out)) T0 ?_
    simp only [Act.put, Z1, Z2, Z3]
    refine Held.takeB (v := .pointer (some ⟨w.heap.size, 2, none⟩)) 9 (some 39) [13] rfl rfl (by kernel_rfl) (by kernel_rfl) (by kernel_rfl) (by kernel_rfl) (fun _ _ _ h => h) rfl (Held.y_field (k := 2) (s := 0) rfl rfl Tryd.underlying23 rfl (by kernel_rfl) rfl) T0 ?_
    simp only [Act.put, Z1, Z2, Z3]
    refine Held.takeB (v := .int .i64 b) 10 (some 40) [13] rfl rfl (by kernel_rfl) (by kernel_rfl) (by kernel_rfl) (by kernel_rfl) (fun _ _ _ h => h) rfl (Held.y_load rfl rfl (by kernel_rfl) (fun W hW => (hW.1).cell rfl)) T0 ?_
    simp only [Act.put, Z1, Z2, Z3]
    refine Held.takeB (v := .int .i64 ((q * b))) 11 (some 41) [13] rfl rfl (by kernel_rfl) (by kernel_rfl) (by kernel_rfl) (by kernel_rfl) (fun _ _ _ h => h) rfl (Held.y_int rfl rfl rfl (Held.run_mul 3 .i64 (E4.out))) T0 ?_
    simp only [Act.put, Z1, Z2, Z3]
    refine Held.takeB (v := .pointer (some ⟨g2, 0, none⟩)) 12 (some 42) [13] rfl rfl (by kernel_rfl) (by kernel_rfl) (by kernel_rfl) (by kernel_rfl) (fun _ _ _ h => h) rfl (Held.y_field (k := 0) (s := 0) rfl rfl Tryd.underlying23 rfl (by kernel_rfl) rfl) T0 ?_
    simp only [Act.put, Z1, Z2, Z3]
    refine Held.oneB 13 (by kernel_rfl) ?_
    refine op_store_field 13 none 3 g2 0 23 _ (.int .i64 (q * b)) rfl rfl rfl rfl rfl rfl T0.2 (by simp) (by kernel_rfl) rfl rfl ?_
    intro u8 qq8 g8
    refine ⟨(fun h => by cases h.symm.trans (show _ = true by kernel_rfl)), ?_⟩
    simp only [Act.put]
    refine Held.doneB (by kernel_rfl) ?_ _
    have qq8 : Blk u8 g2 23 #[.int .i64 (q * b), .int .i64 k, .int .i64 b, .int .i64 (v : Int)] := qq8
    have hg27 : g2 < u7.heap.size := qq7.lt
    have bd7 : Below w.heap.size w u7.drew := bo7.trans ((Below.refl u7.heap.size u7).drew.mono hs7)
    have bo8 := bd7.grown g8 bd7.size (fun r e => by cases e; exact hs4)
    have qp8 := T0.1.grown g8 (by intro e; injection e with e; omega)
    have hs8 := bo8.size
    clear T0 g8 bd7 bo7 qp7 qq7 E1 E2 E3 E4
    go_wp2_with (first
      | (refine wpList_load_blk (w := u8) rfl 23 _ rfl (g2) 4 rfl 23 _ qq8 _ Tryd.underlying23 rfl (by kernel_rfl) rfl ?_))
    refine (rright_any (q * b) k b (v : Int) u8).mono ?_
    rintro e w9 ⟨rfl, b9⟩
    have qp9 := qp8.after b9
    have qq9 := qq8.after b9
    have bo9 := bo8.trans (b9.mono hs8)
    have hs9 := bo9.size
    clear qp8 qq8 b9 bo8
    by_cases hR2 : Sp.rightB (q * b) k b (v : Int) = true
    case neg =>
      rw [show Sp.rightE (q * b) k b (v : Int) = 1 by rw [Sp.rightE, if_neg hR2]]
      clear hR2
      go_wp2_with fail
      refine (awake17_any _ (hT.below bo9 hTw)).mono ?_
      rintro e w10 ⟨rfl, b10⟩
      have bo10 := bo9.trans (b10.mono hs9)
      go_wp2_with fail
      go_ret
      exact ⟨rfl, bo10⟩
    case pos =>
      rw [show Sp.rightE (q * b) k b (v : Int) = 0 by rw [Sp.rightE, if_pos hR2]]
      have hsame := same_job HRX.out (show Sp.rightB ((x + b - 1) / b * b) k b (v : Int) = true by rw [HQ.out]; exact hR2)
      rw [HQ.out] at hsame
      obtain ⟨s1, s2, s3, s4⟩ := hsame
      have hj := job_of (r := x) (b := b) (wk := wk) hk0 hk1
      have HS1 := Lib.hid (fun bp W Q hT hm => seq2t_own bp 2000 x k b wk hk0 hk1 W Q hT hm (by omega))
      have HS2 := Lib.hid (fun bp W Q hT hm => seq2t_own bp 2000 (q * b) k b (v : Int) hk0 hk1 W Q hT hm (by omega))
      rw [s1, s2, s3, s4] at HS2
      have hlen : (tasksT (inN x k b wk) (mpN x k b wk) (mN x k b wk) (tN x k b wk)).length ≤ 1000 := by rw [tasks_length hj]; exact cn_le hj (by omega)
      have HWF := Lib.hid (show ∀ t ∈ tasksT (inN x k b wk) (mpN x k b wk) (mN x k b wk) (tN x k b wk), kT.wf t from fun t ht => (tasks_b hj ht).wf)
      generalize tasksT (inN x k b wk) (mpN x k b wk) (mN x k b wk) (tN x k b wk) = l at *
      clear hj s1 s2 s3 s4 hR2
      go_wp2_with (first
        | (refine wpList_load_blk (w := w9) rfl 23 _ rfl (w.heap.size) 4 rfl 23 _ qp9 _ Tryd.underlying23 rfl (by kernel_rfl) rfl ?_))
      refine (taskss_any x k b wk w9).mono ?_
      rintro e w10 ⟨bp, rfl, qb, hbp, b10⟩
      have qq10 := qq9.after b10
      have bo10 := bo9.trans (b10.mono hs9)
      have hs10 := bo10.size
      clear qp9 qq9 bo9 b10
      go_wp2_with fail
      refine (HS1.out bp w10 qb (hT.below bo10 hTw) (by omega)).mono ?_
      rintro e w11 ⟨A1, c1, A2, c2, rfl, -, o2, b11⟩
      have qq11 := qq10.after b11
      have bo11 := bo10.trans (b11.mono hs10)
      have hs11 := bo11.size
      have L1 : Lst kT w11 w11.heap.size A2 l.length l := OwnL.lst o2 HWF.out
      clear o2 qq10 bo10 b11 qb HS1
      go_wp2_with (first
        | (refine wpList_load_blk (w := w11) rfl 23 _ rfl (g2) 4 rfl 23 _ qq11 _ Tryd.underlying23 rfl (by kernel_rfl) rfl ?_))
      refine (taskss_any (q * b) k b (v : Int) w11).mono ?_
      rintro e w12 ⟨bp2, rfl, qb, hbp2, b12⟩
      have L1 := L1.below b12
      have bo12 := bo11.trans (b12.mono hs11)
      have hs12 := bo12.size
      have hz12 := b12.size
      clear qq11 bo11 b12
      go_wp2_with fail
      refine (HS2.out bp2 w12 qb (hT.below bo12 hTw) (by omega)).mono ?_
      rintro e w13 ⟨A3, c3, A4, c4, rfl, -, o4, b13⟩
      have L1 := L1.below (b13.mono hz12)
      have bo13 := bo12.trans (b13.mono hs12)
      have hs13 := bo13.size
      have hz13 := b13.size
      have L2 : Lst kT w13 w13.heap.size A4 l.length l := OwnL.lst o4 HWF.out
      clear o4 bo12 b13 qb HS2
      go_wp2_with fail
      refine (awake17_any _ (hT.below bo13 hTw)).mono ?_
      rintro e w14 ⟨rfl, b14⟩
      have hz14 := b14.size
      have L1 := L1.below (b14.mono (Nat.le_trans hz12 hz13))
      have L2 := L2.below b14
      have bo14 := bo13.trans (b14.mono hs13)
      go_wp2_with fail
      refine (plainT_any w11.heap.size w13.heap.size A2 A4 l.length l.length c2 c4 l l w14 L1 L2 (by omega) (by omega) (by omega) (by omega)).mono ?_
      rintro e w15 ⟨rfl, b15⟩
      have bo15 := bo14.trans (b15.mono bo14.size)
      rw [decide_eq_true (rfl : l = l)]
      go_wp2_with fail
      go_ret
      exact ⟨rfl, bo15⟩
theorem walk (pr0 pk0 pb0 pw0 : Int) (a1 : Int) (w : World) (wr0 : (Lit.int .i64 pr0).wf = true) (wk0 : (Lit.int .i64 pk0).wf = true) (wb0 : (Lit.int .i64 pb0).wf = true) (ww0 : (Lit.int .i64 pw0).wf = true) (w1 : (Lit.int .i64 a1).wf = true) (hL : laidMetH Tryd.prog laidList w) :
    Calls Tryd.prog 7 #[.agg #[.int .i64 pr0, .int .i64 pk0, .int .i64 pb0, .int .i64 pw0], .int .i64 a1] w fun e w' => e = .returned (.bool true) ∧ Below w.heap.size w w' := by
  exact (fun _ _ _ _ => start pr0 pk0 pb0 pw0 a1 w (wf_says wk0).1 (wf_says wk0).2 (Bi.bits_of_laid hL)) wr0 wb0 ww0 w1
set_option maxRecDepth 100000 in
theorem door_met (os : Os) (args : Array Value) : laidMetH Tryd.prog laidList ((World.doorLaid Tryd.prog 400 os).forCall (fun _ _ => 0) ⟨#[], args, []⟩).memory :=
  laidMetH_of_parts3 (fuel := 8) (laidMet_of_run' 8 (by kernel_rfl) (by kernel_rfl)) (by kernel_rfl) (by kernel_rfl)
set_option maxRecDepth 100000 in
theorem lifted (os : Os) (started : os.Started) (H : Type) (enc : TypeId × Value → H) :
    ReturnsInHanded {} Tryd.checked os 7 .any (fun w args => (Rows.shapePublicSpec.pre enc Tryd.prog Tryd.f7 [] false w args ∧ laidMetH Tryd.prog laidList w) ∧ sizedMet enc Tryd.prog Tryd.f7 (OpenSpec.ofChange Rows.shapePublicSpec) false w args)
      (Rows.shapePublicSpec.post enc Tryd.prog Tryd.f7 false true false false) := by
  refine returnsInHanded_of_change_and (C := Tryd.checked) (X := fun w _ => laidMetH Tryd.prog laidList w) (fun _ _ _ hh h => h.of_heap hh) own started (by kernel_rfl) Tryd.func7
    (ChangeSpec.witness_shaped (enc := enc) (C := Tryd.checked) (os := os) (X := fun w _ => laidMetH Tryd.prog laidList w) false (World.doorLaid Tryd.prog 400 os) #[.agg #[.int .i64 0, .int .i64 0, .int .i64 0, .int .i64 0], .int .i64 0] 8 rfl (World.shaped_of_RefB (by kernel_rfl) (by kernel_rfl)) (by kernel_rfl) (by kernel_rfl) (by kernel_rfl) (door_met os _)) ?_
  intro W base args ds gs before hval0 hW _ _ hL _
  have hval : ∀ (j : Nat) t v, Tryd.f7.params[j]? = some t → args[j]? = some v → Value.okWide Tryd.prog W .any base t v := hval0
  have hW' := hW
  obtain ⟨p, q, hA0, hV, rfl, hfz, hnd⟩ := hW
  have hA : DataW.TrodAll enc Tryd.prog W 0 (fun _ => true) true Tryd.f7.params.toList args.toList ds p := hA0
  rw [Tryd.params7] at hA hval
  obtain ⟨v0, vs0, d0, ds0, p0, q0, hargs, rfl, rfl, h0, r0⟩ := trodAll_cons hA
  obtain ⟨v1, vs1, d1, ds1, p1, q1, rfl, rfl, rfl, h1, r1⟩ := trodAll_cons r0
  obtain ⟨rfl, rfl, rfl⟩ := trodAll_nil r1
  obtain rfl : args = #[v0, v1] := by cases args; simp_all
  obtain ⟨rfl, rfl⟩ := trodVars_none hV
  have kk0 := h0
  have lt0 : ∀ x ∈ p0, x.block < W.heap.size := by obtain ⟨m, hm⟩ := kk0; exact DataW.trod_lt m _ _ _ hm
  obtain ⟨pr0, pk0, pb0, pw0, rfl, wr0, wk0, wb0, ww0⟩ := Sp.open_params (hval 0 23 v0 rfl rfl) h0
  obtain ⟨a1, rfl, rfl, rfl, w1⟩ := open_int Tryd.underlying3 (hval 1 3 v1 rfl rfl) h1
  clear hA0 hval0
  refine (walk pr0 pk0 pb0 pw0 a1 W wr0 wk0 wb0 ww0 w1 hL).mono fun e W' ⟨he, bel⟩ => ?_
  subst he
  exact ⟨_, rfl, _, _, _, [], _, [], hW', trodAll_mk1 (shut_bool Tryd.underlying4 _), (trodAll_cons_mk (Below.trod laidOut (by kernel_rfl) (of_decide_eq_true (by kernel_rfl)) kk0 bel lt0) (trodAll_cons_mk (shut_int Tryd.underlying3 w1) trodAll_mk0)), rfl, bel.frame _, fun h => by cases h⟩
theorem over : Rows.shapePublicRow.holds Tryd.pinned (OpenSpec.ofChange Rows.shapePublicSpec) :=
  OpenClaim.holds_of_wide 7 Tryd.f7 rfl rfl rfl rfl rfl rfl rfl ⟨rfl, rfl, rfl, rfl, rfl⟩ rfl rfl rfl rfl rfl (by kernel_rfl) Tryd.func7 (by kernel_rfl)
    (of_decide_eq_true (by kernel_rfl)) (by unfold Func.isWrapper; first | (rw [if_pos (by decide +kernel)]; kernel_rfl) | (rw [if_neg (by decide +kernel)]; exact ⟨rfl, rfl⟩))
    (fun os started H enc _ => lifted os started H enc)
theorem proved : Rows.ShapePublicCardSaid :=
  Claim7.holds_tied_plain_at .later [] [.data, .data] true (true, "b51c9af04704eea82f655a5f45461bda46be16b68d0798ec6033d81cff00a01d") false
    over (fun _ h => by cases h) (by kernel_rfl) (fun _ h => by cases h) shapePublic_row_tie rfl ⟨rfl, rfl⟩ (by kernel_rfl) rfl
    (fun f fn hf hfn => by
      obtain rfl : f = 7 := Option.some.inj ((show Tryd.prog.funcNamed "domino/dominolaw17.ShapePublic" = some 7 by kernel_rfl).symm.trans hf) |>.symm
      obtain rfl : fn = Tryd.f7 := (Option.some.inj (Tryd.func7.symm.trans hfn)).symm
      exact ⟨by kernel_rfl, fun j t ht => by
        rw [Tryd.params7] at ht
        have hm : t ∈ [23, 3] := by simpa using Array.mem_of_getElem? ht
        have hall : ([23, 3].all fun u => !Tryd.prog.wantsStandIn u) = true := by kernel_rfl
        exact (show Tryd.prog.wantsStandIn t = false by simpa using List.all_eq_true.1 hall t hm)⟩)
    (by kernel_rfl)
#print axioms proved
end Go.Proofs.YtipmfficjomcoaaDoor.shapePublic
