/-
  The law SpecParams of package dominolaw12 returns true for every four public numbers: which of them may be, each within its bounds, and not too many blocks together, is what Right tells.
-/
import Derived.Test.YtjhpbpoldedldaaRows
import Derived.WalkKit
import Derived.ProofKit
import Derived.OpenShut
import Derived.ShutString
import Derived.ChangeOld
import Derived.Below
import Derived.Test.YtjhpbpoldedldaaB8
namespace Go.Proofs.Ytjhpbpoldedldaa.specParams
open Go.ChangeShapes Go.WideShapes Go.ChangeAt Go.RowKit
open Go.ChangeMaps (open_string shut_string)
open Go.Shelf Go.Proofs.Ytjhpbpoldedldaa Mem Held Rc Rs Sl Vm Sp
theorem own : ownKnob Try.prog.godebug = none := by kernel_rfl
theorem laidOut : laidOutB Try.prog = true := by kernel_rfl
attribute [local irreducible] wpList Calls
theorem ceil_is {r b : Int} {j : Nat} (hb : 1 ≤ b) (h1 : r ≤ b * j) (h2 : b * ((j : Int) - 1) < r) : (r + b - 1) / b = (j : Int) := by
  have e : b * ((j : Int) - 1) = b * j - b := by rw [Int.mul_sub, Int.mul_one]
  rw [e] at h2
  have e2 : r + b - 1 = (r + b - 1 - b * j) + b * j := by omega
  rw [e2, Int.add_mul_ediv_left _ _ (by omega), Int.ediv_eq_zero_of_lt (by omega) (by omega)]
  omega
theorem rightE_no {r k b wk : Int} (h : ¬ (r ≥ 1 ∧ r ≤ 64 ∧ k ≥ 1 ∧ k ≤ 4 ∧ b ≥ 1 ∧ b ≤ 8 ∧ wk ≥ 1 ∧ wk ≤ 4)) : rightE r k b wk = 1 := by
  rw [rightE, if_neg]
  intro e
  simp only [rightB, Bool.and_eq_true, decide_eq_true_eq] at e
  omega
theorem rightE_is {r k b wk : Int} {j : Nat} (h : r ≥ 1 ∧ r ≤ 64 ∧ k ≥ 1 ∧ k ≤ 4 ∧ b ≥ 1 ∧ b ≤ 8 ∧ wk ≥ 1 ∧ wk ≤ 4) (hj : (r + b - 1) / b = (j : Int)) : rightE r k b wk = if k * (j : Int) < 32 then 0 else 1 := by
  unfold rightE rightB
  rw [hj]
  obtain ⟨h1, h2, h3, h4, h5, h6, h7, h8⟩ := h
  simp [h2, h4, h6, h8, show 1 ≤ r by omega, show 1 ≤ k by omega, show 1 ≤ b by omega, show 1 ≤ wk by omega]
set_option maxRecDepth 100000 in
set_option maxHeartbeats 16000000 in
theorem start (r k b wk : Int) (w : World) (wr_ : (Lit.int .i64 r).wf = true) (wk_ : (Lit.int .i64 k).wf = true) (wb_ : (Lit.int .i64 b).wf = true) (ww_ : (Lit.int .i64 wk).wf = true) :
    Calls Try.prog 7 #[.agg #[.int .i64 r, .int .i64 k, .int .i64 b, .int .i64 wk]] w fun e w' => e = .returned (.bool true) ∧ Below w.heap.size w w' := by
  go_enter Try.func7, Try.ntmps7
  by_cases hall : r ≥ 1 ∧ r ≤ 64 ∧ k ≥ 1 ∧ k ≤ 4 ∧ b ≥ 1 ∧ b ≤ 8 ∧ wk ≥ 1 ∧ wk ≤ 4
  · have HALL := Lib.hid hall
    obtain ⟨h1, h2, h3, h4, h5, h6, h7, h8⟩ := hall
    go_wp2_with (first
      | (refine wpList_box_blk (w := w) rfl 33 _ rfl #[.int .i64 r, .int .i64 k, .int .i64 b, .int .i64 wk] rfl ?_; intro u1 q1 g1 z1; have hc0 := q1.cell (i := 0) rfl; have hc1 := q1.cell (i := 1) rfl; have hc2 := q1.cell (i := 2) rfl; have hc3 := q1.cell (i := 3) rfl; have b1 : Below w.heap.size w u1 := (Below.refl _ w).grown g1 (Nat.le_refl _) (by simp); clear g1 z1)
      | (refine wpList_run (w := u1) rfl (v := .pointer (some ⟨w.heap.size, 0, none⟩)) (Held.y_field (S := fun _ => True) (k := 0) (s := 0) rfl rfl Try.underlying33 rfl (by kernel_rfl) rfl _ trivial) ?_)
      | (refine wpList_run (w := u1) rfl (v := .pointer (some ⟨w.heap.size, 1, none⟩)) (Held.y_field (S := fun _ => True) (k := 1) (s := 0) rfl rfl Try.underlying33 rfl (by kernel_rfl) rfl _ trivial) ?_)
      | (refine wpList_run (w := u1) rfl (v := .pointer (some ⟨w.heap.size, 2, none⟩)) (Held.y_field (S := fun _ => True) (k := 2) (s := 0) rfl rfl Try.underlying33 rfl (by kernel_rfl) rfl _ trivial) ?_)
      | (refine wpList_run (w := u1) rfl (v := .pointer (some ⟨w.heap.size, 3, none⟩)) (Held.y_field (S := fun _ => True) (k := 3) (s := 0) rfl rfl Try.underlying33 rfl (by kernel_rfl) rfl _ trivial) ?_))
    go_loopw [4, 5] (fun bl n wr => ∃ j : Nat, bl = .int .i64 (k * j) ∧ n = .int .i64 (r - b * j) ∧ Hid (j = 0 ∨ b * ((j : Int) - 1) < r) ∧ wr = u1) (fun _ n _ => (intOf n).toNat)
    case atStart => exact ⟨0, by simp, by simp, Lib.hid (.inl rfl), rfl⟩
    case round =>
      obtain ⟨j, rfl, rfl, HJ, rfl⟩ := hrel
      by_cases hgt : b * (j : Int) < r
      · have hjr : (j : Int) ≤ 63 := by
          have : 1 * (j : Int) ≤ b * j := Int.mul_le_mul_of_nonneg_right (by omega) (by omega)
          omega
        have hk0 : 0 ≤ k * (j : Int) := Int.mul_nonneg (by omega) (by omega)
        have hk1 : k * (j : Int) ≤ 4 * 63 := Int.mul_le_mul h4 hjr (by omega) (by omega)
        have hb0 : 0 ≤ b * (j : Int) := Int.mul_nonneg (by omega) (by omega)
        have HK := Lib.hid (show k * ((j + 1 : Nat) : Int) = k * j + k by rw [Int.natCast_add, Int.mul_add]; simp)
        have HB := Lib.hid (show b * ((j + 1 : Nat) : Int) = b * j + b by rw [Int.natCast_add, Int.mul_add]; simp)
        have HJ1 := Lib.hid (show b * (((j + 1 : Nat) : Int) - 1) = b * j by rw [Int.natCast_add]; congr 1; simp)
        generalize k * (j : Int) = KJ at *
        generalize b * (j : Int) = BJ at *
        have hpos : r - BJ > 0 := by omega
        have e1 : IntKind.i64.wrap (KJ + k) = KJ + k := by rw [IntKind.wrap_i64]; omega
        have e2 : IntKind.i64.wrap (r - BJ - b) = r - BJ - b := by rw [IntKind.wrap_i64]; omega
        go_wp2_with (first
        | (refine wpList_run (w := wr) rfl (v := .pointer (some ⟨w.heap.size, 1, none⟩)) (Held.y_field (S := fun _ => True) (k := 1) (s := 0) rfl rfl Try.underlying33 rfl (by kernel_rfl) rfl _ trivial) ?_)
        | (refine wpList_run (w := wr) rfl (v := .pointer (some ⟨w.heap.size, 2, none⟩)) (Held.y_field (S := fun _ => True) (k := 2) (s := 0) rfl rfl Try.underlying33 rfl (by kernel_rfl) rfl _ trivial) ?_))
        go_roundw
        case rel => exact ⟨j + 1, by rw [HK.out], by rw [HB.out, show r - (BJ + b) = r - BJ - b by omega], Lib.hid (.inr (by rw [HJ1.out]; exact hgt)), trivial⟩
        case measure => simp [intOf, e1, e2]; omega
      · have hle : ¬ r - b * (j : Int) > 0 := by omega
        have hj0 : j ≠ 0 := by
          intro e
          subst e
          simp at hgt
          omega
        have hce := ceil_is (r := r) (b := b) (j := j) h5 (by omega) (HJ.out.elim (fun e => absurd e hj0) id)
        have HE := Lib.hid (rightE_is HALL.out hce)
        clear hce hgt hj0 HJ
        generalize b * (j : Int) = BJ at *
        generalize k * (j : Int) = KJ at *
        by_cases h32 : KJ < 32
        · have HE := Lib.hid (show rightE r k b wk = 0 by rw [HE.out, if_pos h32])
          go_wp2_with fail
          refine (awake12_any wr).mono ?_
          rintro e u2 ⟨rfl, b2⟩
          have q2 := q1.after b2
          have b2 := b1.trans (b2.mono b1.size)
          go_wp2_with (refine wpList_load_blk (w := u2) rfl 33 _ rfl w.heap.size 4 rfl 33 _ q2 _ Try.underlying33 rfl size_params rfl ?_)
          refine (right_any r k b wk u2).mono ?_
          rintro e u3 ⟨rfl, b3⟩
          rw [HE.out]
          have b3 := b2.trans (b3.mono b2.size)
          go_wp2_with fail
          go_ret
          exact ⟨rfl, b3⟩
        · have HE := Lib.hid (show rightE r k b wk = 1 by rw [HE.out, if_neg h32])
          go_wp2_with fail
          refine (awake12_any wr).mono ?_
          rintro e u2 ⟨rfl, b2⟩
          have q2 := q1.after b2
          have b2 := b1.trans (b2.mono b1.size)
          go_wp2_with (refine wpList_load_blk (w := u2) rfl 33 _ rfl w.heap.size 4 rfl 33 _ q2 _ Try.underlying33 rfl size_params rfl ?_)
          refine (right_any r k b wk u2).mono ?_
          rintro e u3 ⟨rfl, b3⟩
          rw [HE.out]
          have b3 := b2.trans (b3.mono b2.size)
          go_wp2_with fail
          go_ret
          exact ⟨rfl, b3⟩
  · have HE := Lib.hid (rightE_no hall)
    have HALL := Lib.hid hall
    clear hall
    go_wp2_with (first
      | (refine wpList_box_blk (w := w) rfl 33 _ rfl #[.int .i64 r, .int .i64 k, .int .i64 b, .int .i64 wk] rfl ?_; intro u1 q1 g1 z1; have hc0 := q1.cell (i := 0) rfl; have hc1 := q1.cell (i := 1) rfl; have hc2 := q1.cell (i := 2) rfl; have hc3 := q1.cell (i := 3) rfl; have b1 : Below w.heap.size w u1 := (Below.refl _ w).grown g1 (Nat.le_refl _) (by simp); clear g1 z1)
      | (refine wpList_run (w := u1) rfl (v := .pointer (some ⟨w.heap.size, 0, none⟩)) (Held.y_field (S := fun _ => True) (k := 0) (s := 0) rfl rfl Try.underlying33 rfl (by kernel_rfl) rfl _ trivial) ?_)
      | (refine wpList_run (w := u1) rfl (v := .pointer (some ⟨w.heap.size, 1, none⟩)) (Held.y_field (S := fun _ => True) (k := 1) (s := 0) rfl rfl Try.underlying33 rfl (by kernel_rfl) rfl _ trivial) ?_)
      | (refine wpList_run (w := u1) rfl (v := .pointer (some ⟨w.heap.size, 2, none⟩)) (Held.y_field (S := fun _ => True) (k := 2) (s := 0) rfl rfl Try.underlying33 rfl (by kernel_rfl) rfl _ trivial) ?_)
      | (refine wpList_run (w := u1) rfl (v := .pointer (some ⟨w.heap.size, 3, none⟩)) (Held.y_field (S := fun _ => True) (k := 3) (s := 0) rfl rfl Try.underlying33 rfl (by kernel_rfl) rfl _ trivial) ?_))
    all_goals first
      | (exfalso; exact HALL.out ⟨by assumption, by assumption, by assumption, by assumption, by assumption, by assumption, by assumption, by assumption⟩)
      | skip
    all_goals
      refine (awake12_any u1).mono ?_
      rintro e u2 ⟨rfl, b2⟩
      have q2 := q1.after b2
      have b2 := b1.trans (b2.mono b1.size)
      go_wp2_with (refine wpList_load_blk (w := u2) rfl 33 _ rfl w.heap.size 4 rfl 33 _ q2 _ Try.underlying33 rfl size_params rfl ?_)
      refine (right_any r k b wk u2).mono ?_
      rintro e u3 ⟨rfl, b3⟩
      rw [HE.out]
      have b3 := b2.trans (b3.mono b2.size)
      go_wp2_with fail
      go_ret
      exact ⟨rfl, b3⟩
theorem walk (pr0 pk0 pb0 pw0 : Int) (w : World) (wr0 : (Lit.int .i64 pr0).wf = true) (wk0 : (Lit.int .i64 pk0).wf = true) (wb0 : (Lit.int .i64 pb0).wf = true) (ww0 : (Lit.int .i64 pw0).wf = true) :
    Calls Try.prog 7 #[.agg #[.int .i64 pr0, .int .i64 pk0, .int .i64 pb0, .int .i64 pw0]] w fun e w' => e = .returned (.bool true) ∧ Below w.heap.size w w' := by
  exact start pr0 pk0 pb0 pw0 w wr0 wk0 wb0 ww0
set_option maxRecDepth 100000 in
theorem lifted (os : Os) (started : os.Started) (H : Type) (enc : TypeId × Value → H) :
    ReturnsInHanded {} Try.checked os 7 .any (Rows.specParamsSpec.pre6 enc Try.prog Try.f7 Rows.specParamsRow.domain false) (Rows.specParamsSpec.post enc Try.prog Try.f7 false true false false) := by
  refine returnsInHanded_of_change (C := Try.checked) own started (by kernel_rfl) Try.func7
    (ChangeSpec.witness6 (enc := enc) (C := Try.checked) false ⟨#[], #[.agg #[.int .i64 0, .int .i64 0, .int .i64 0, .int .i64 0]], []⟩ 8 (by kernel_rfl) (by kernel_rfl) (by kernel_rfl) (by kernel_rfl)) ?_
  intro W base args ds gs before hval0 hW hcnd _
  have hval : ∀ (j : Nat) t v, Try.f7.params[j]? = some t → args[j]? = some v → Value.okWide Try.prog W .any base t v := hval0
  have hW' := hW
  obtain ⟨p, q, hA0, hV, rfl, hfz, hnd⟩ := hW
  have hA : DataW.TrodAll enc Try.prog W 0 (fun _ => true) true Try.f7.params.toList args.toList ds p := hA0
  rw [Try.params7] at hA hval
  obtain ⟨v0, vs0, d0, ds0, p0, q0, hargs, rfl, rfl, h0, r0⟩ := trodAll_cons hA
  obtain ⟨rfl, rfl, rfl⟩ := trodAll_nil r0
  obtain rfl : args = #[v0] := by cases args; simp_all
  obtain ⟨rfl, rfl⟩ := trodVars_none hV
  have kk0 := h0
  have lt0 : ∀ x ∈ p0, x.block < W.heap.size := by obtain ⟨m, hm⟩ := kk0; exact DataW.trod_lt m _ _ _ hm
  obtain ⟨pr0, pk0, pb0, pw0, rfl, wr0, wk0, wb0, ww0⟩ := Sp.open_params (hval 0 33 v0 rfl rfl) h0
  clear hA0 hval0
  refine (walk pr0 pk0 pb0 pw0 W wr0 wk0 wb0 ww0).mono fun e W' ⟨he, bel⟩ => ?_
  subst he
  exact ⟨_, rfl, _, _, _, [], _, [], hW', trodAll_mk1 (shut_bool Try.underlying4 _), (trodAll_cons_mk (Below.trod laidOut (by kernel_rfl) (of_decide_eq_true (by kernel_rfl)) kk0 bel lt0) trodAll_mk0), rfl, bel.frame _, fun h => by cases h⟩
theorem over : Rows.specParamsRow.holds Try.pinned (OpenSpec.ofChange Rows.specParamsSpec) :=
  OpenClaim.holds_of_wide 7 Try.f7 rfl rfl rfl rfl rfl rfl rfl ⟨rfl, rfl, rfl, rfl, rfl⟩ rfl rfl rfl rfl rfl (by kernel_rfl) Try.func7 (by kernel_rfl)
    (of_decide_eq_true (by kernel_rfl)) (by unfold Func.isWrapper; first | (rw [if_pos (by decide +kernel)]; kernel_rfl) | (rw [if_neg (by decide +kernel)]; exact ⟨rfl, rfl⟩))
    (fun os started H enc _ => lifted os started H enc)
theorem proved : Rows.SpecParamsSaid :=
  over
#print axioms proved
end Go.Proofs.Ytjhpbpoldedldaa.specParams
