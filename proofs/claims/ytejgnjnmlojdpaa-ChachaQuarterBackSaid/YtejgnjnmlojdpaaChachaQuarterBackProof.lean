/-
  The law ChachaQuarterBack of package dominolaw05 returns true for every four numbers: a quarter can be turned back, step by step. No conditions.
-/
import Derived.Test.YtejgnjnmlojdpaaRows
import Derived.WalkKit
import Derived.ProofKit
import Derived.OpenShut
import Derived.ShutString
import Derived.ChangeOld
import Derived.Below
import Derived.Test.YtejgnjnmlojdpaaChQ
import Derived.Test.YtejgnjnmlojdpaaArrP
namespace Go.Proofs.Ytejgnjnmlojdpaa.chachaQuarterBack
open Go.ChangeShapes Go.WideShapes Go.ChangeAt Go.RowKit
open Go.ChangeMaps (open_string shut_string)
open Go.Proofs.Ytejgnjnmlojdpaa.Mem Go.Proofs.Ytejgnjnmlojdpaa.Help Go.Proofs.Ytejgnjnmlojdpaa.Sum Go.Proofs.Ytejgnjnmlojdpaa.Cc Go.Proofs.Ytejgnjnmlojdpaa.Cha Go.Proofs.Ytejgnjnmlojdpaa
set_option linter.unusedVariables false

theorem own : ownKnob Try.prog.godebug = none := by kernel_rfl
theorem laidOut : laidOutB Try.prog = true := by kernel_rfl

/-- what a slice that came in leads to -/
def IsRow (k : IntKind) (w : World) (a : Option Addr) (len cap : Nat) (zs : List Int) : Prop :=
  (a = none ∧ len = 0 ∧ cap = 0 ∧ zs = []) ∨
  ∃ x, a = some x ∧ len ≤ cap ∧ cap ≤ maxLen ∧ zs.length = cap ∧ (∀ i, i < zs.length → w.cell? (x.add i) = some (.int k (zs.getD i 0))) ∧ ∀ n ∈ zs, (Lit.int k n).wf = true

attribute [local irreducible] wpList Calls

theorem quarter_ex (w : World) : Calls Try.prog 4 #[.int .u32 286331153, .int .u32 16909060, .int .u32 2609737539, .int .u32 19088743] w fun e w' => e = .returned (.tuple #[.int .u32 3928658676, .int .u32 3407673550, .int .u32 1166100270, .int .u32 1484899515]) ∧ w = w' := by
  have h := quarter_any 286331153 16909060 2609737539 19088743 w
  rw [show qr 286331153 16909060 2609737539 19088743 = (3928658676, 3407673550, 1166100270, 1484899515) from example_qr] at h
  exact h
theorem awake5_any (w : World) : Calls Try.prog 6 #[] w fun e w' => e = .returned (.bool true) ∧ w = w' := by
  go_enter Try.func6, Try.ntmps6
  go_wp2_with fail
  refine (quarter_ex _).mono ?_
  rintro e w' ⟨rfl, rfl⟩
  go_wp2_with fail
  go_ret
  exact ⟨rfl, rfl⟩
theorem right_any (x : Int) (p : Nat) (w : World) (hx : R32 x) (hk : 1 ≤ p) (hk' : p ≤ 31) :
    Calls Try.prog 5 #[.int .u32 x, .int .i64 (p : Int)] w fun e w' => e = .returned (.int .u32 (rotI x p)) ∧ w = w' := by
  go_enter Try.func5, Try.ntmps5
  go_wp2
  go_ret
  exact ⟨rfl, rfl⟩
theorem right_7 (x : Int) (w : World) (hx : R32 x) : Calls Try.prog 5 #[.int .u32 x, .int .i64 7] w fun e w' => e = .returned (.int .u32 (rotI x 7)) ∧ w = w' := right_any x 7 w hx (by omega) (by omega)
theorem right_8 (x : Int) (w : World) (hx : R32 x) : Calls Try.prog 5 #[.int .u32 x, .int .i64 8] w fun e w' => e = .returned (.int .u32 (rotI x 8)) ∧ w = w' := right_any x 8 w hx (by omega) (by omega)
theorem right_12 (x : Int) (w : World) (hx : R32 x) : Calls Try.prog 5 #[.int .u32 x, .int .i64 12] w fun e w' => e = .returned (.int .u32 (rotI x 12)) ∧ w = w' := right_any x 12 w hx (by omega) (by omega)
theorem right_16 (x : Int) (w : World) (hx : R32 x) : Calls Try.prog 5 #[.int .u32 x, .int .i64 16] w fun e w' => e = .returned (.int .u32 (rotI x 16)) ∧ w = w' := right_any x 16 w hx (by omega) (by omega)

theorem qr_steps {a b c d : Int} (ha : R32 a) (hb : R32 b) (hc : R32 c) (hd : R32 d) : ∃ q1 q2 q3 q4 a1 b1 c1 d1, qr a b c d = (q1, q2, q3, q4) ∧ R32 q2 ∧ R32 q4 ∧ R32 b1 ∧ R32 d1 ∧
    bits .xor .u32 (rotI q2 7) q3 = b1 ∧ (q3 - q4) % 4294967296 = c1 ∧ bits .xor .u32 (rotI q4 8) q1 = d1 ∧ (q1 - b1) % 4294967296 = a1 ∧
    bits .xor .u32 (rotI b1 12) c1 = b ∧ (c1 - d1) % 4294967296 = c ∧ bits .xor .u32 (rotI d1 16) a1 = d ∧ (a1 - b) % 4294967296 = a := by
  obtain ⟨e1, e2, e3, e4⟩ := qr_back ha hb hc hd
  obtain ⟨y1, y2, y3, y4⟩ := r32_qr a b c d
  rw [e2] at e1
  exact ⟨_, _, _, _, _, _, _, _, rfl, y2, y4, r32_xor _ _, r32_xor _ _, rfl, rfl, rfl, rfl, e2, e3, e4, e1⟩
theorem quarter_of {a b c d q1 q2 q3 q4 : Int} (e : qr a b c d = (q1, q2, q3, q4)) (w : World) : Calls Try.prog 4 #[.int .u32 a, .int .u32 b, .int .u32 c, .int .u32 d] w fun e w' => e = .returned (.tuple #[.int .u32 q1, .int .u32 q2, .int .u32 q3, .int .u32 q4]) ∧ w = w' := by
  have h := quarter_any a b c d w
  rw [e] at h
  exact h

set_option maxRecDepth 100000 in
set_option maxHeartbeats 2000000 in
theorem start (q : List Int) (w : World) (hl : q.length = 4) (hw : ∀ z ∈ q, (Lit.int .u32 z).wf = true) :
    Calls Try.prog 3 #[.agg (arr .u32 q)] w fun e w' => e = .returned (.bool true) ∧ Below w.heap.size w w' := by
  have hr : ∀ z ∈ q, R32 z := fun z hz => by
    have := hw z hz
    simp [Lit.wf, IntKind.min, IntKind.max, IntKind.signed, IntKind.bits] at this
    exact ⟨this.1, by omega⟩
  obtain ⟨a, b, c, d, rfl⟩ : ∃ a b c d, q = [a, b, c, d] := by
    rcases q with _ | ⟨a, _ | ⟨b, _ | ⟨c, _ | ⟨d, _ | ⟨e, q⟩⟩⟩⟩⟩ <;> first | (simp at hl; done) | exact ⟨_, _, _, _, rfl⟩
  have ha := hr a (by simp)
  have hb := hr b (by simp)
  have hc := hr c (by simp)
  have hd := hr d (by simp)
  obtain ⟨q1, q2, q3, q4, a1, b1, c1', d1, eq, y2, y4, yb, yd, e1, e2, e3, e4, e5, e6, e7, e8⟩ := qr_steps ha hb hc hd
  have EQ := Lib.hid eq
  clear eq ha hb hc hd
  have r0 : Row (w.alloc (.cells (arr .u32 [a, b, c, d]) 23)) w.heap.size 23 .u32 [a, b, c, d] := Row.new w _ hw
  have c0 := r0.cell (i := 0) (by simp)
  have c1 := r0.cell (i := 1) (by simp)
  have c2 := r0.cell (i := 2) (by simp)
  have c3 := r0.cell (i := 3) (by simp)
  simp only [List.getD_cons_zero, List.getD_cons_succ] at c0 c1 c2 c3
  have bz : Below w.heap.size w (w.alloc (.cells (arr .u32 [a, b, c, d]) 23)) := (Below.refl _ w).alloc (Nat.le_refl _) _
  clear hr hl hw
  go_enter Try.func3, Try.ntmps3
  go_wp2_with fail
  refine (quarter_of EQ.out _).mono ?_
  rintro e w' ⟨rfl, rfl⟩
  go_wp2_with fail
  refine (right_7 _ _ y2).mono ?_
  rintro e w' ⟨rfl, rfl⟩
  go_wp2_with fail
  refine (right_8 _ _ y4).mono ?_
  rintro e w' ⟨rfl, rfl⟩
  go_wp2_with fail
  refine (right_12 _ _ yb).mono ?_
  rintro e w' ⟨rfl, rfl⟩
  go_wp2_with fail
  refine (right_16 _ _ yd).mono ?_
  rintro e w' ⟨rfl, rfl⟩
  go_wp2_with fail
  refine (awake5_any _).mono ?_
  rintro e w' ⟨rfl, rfl⟩
  go_wp2_with fail
  go_ret
  exact ⟨rfl, bz⟩

theorem walk (z0 : List Int) (w : World) (zl0 : z0.length = 4) (zw0 : ∀ z ∈ z0, (Lit.int .u32 z).wf = true) :
    Calls Try.prog 3 #[.agg (Mem.arr .u32 z0)] w fun e w' => e = .returned (.bool true) ∧ Below w.heap.size w w' := by
  exact start z0 w zl0 zw0

set_option maxRecDepth 100000 in
theorem lifted (os : Os) (started : os.Started) (H : Type) (enc : TypeId × Value → H) :
    ReturnsInHanded {} Try.checked os 3 .any (Rows.chachaQuarterBackSpec.pre6 enc Try.prog Try.f3 Rows.chachaQuarterBackRow.domain false) (Rows.chachaQuarterBackSpec.post enc Try.prog Try.f3 false true false false) := by
  refine returnsInHanded_of_change (C := Try.checked) own started (by kernel_rfl) Try.func3
    (ChangeSpec.witness6 (enc := enc) (C := Try.checked) false ⟨#[], #[.agg (Array.replicate 4 (.int .u32 0))], []⟩ 8 (by kernel_rfl) (by kernel_rfl) (by kernel_rfl) (by kernel_rfl)) ?_
  intro W base args ds gs before hval0 hW hcnd _
  have hval : ∀ (j : Nat) t v, Try.f3.params[j]? = some t → args[j]? = some v → Value.okWide Try.prog W .any base t v := hval0
  have hW' := hW
  obtain ⟨p, q, hA0, hV, rfl, hfz, hnd⟩ := hW
  have hA : DataW.TrodAll enc Try.prog W 0 (fun _ => true) true Try.f3.params.toList args.toList ds p := hA0
  rw [Try.params3] at hA hval
  obtain ⟨v0, vs0, d0, ds0, p0, q0, hargs, rfl, rfl, h0, r0⟩ := trodAll_cons hA
  obtain ⟨rfl, rfl, rfl⟩ := trodAll_nil r0
  obtain rfl : args = #[v0] := by cases args; simp_all
  obtain ⟨rfl, rfl⟩ := trodVars_none hV
  have k0 := h0
  have lt0 : ∀ x ∈ p0, x.block < W.heap.size := by obtain ⟨m, hm⟩ := k0; exact DataW.trod_lt m _ _ _ hm
  obtain ⟨z0, rfl, zl0, zw0⟩ := Mem.open_arr Try.underlying23 Try.underlying22 (by kernel_rfl) (by kernel_rfl) (hval 0 23 v0 rfl rfl) h0
  clear hA0 hval0
  refine (walk z0 W zl0 zw0).mono fun e W' ⟨he, bel⟩ => ?_
  subst he
  exact ⟨_, rfl, _, _, _, [], _, [], hW', trodAll_mk1 (shut_bool Try.underlying4 _), (trodAll_cons_mk (Below.trod laidOut (by kernel_rfl) (of_decide_eq_true (by kernel_rfl)) k0 bel lt0) trodAll_mk0), rfl, bel.frame _, fun h => by cases h⟩

theorem over : Rows.chachaQuarterBackRow.holds Try.pinned (OpenSpec.ofChange Rows.chachaQuarterBackSpec) :=
  OpenClaim.holds_of_wide 3 Try.f3 rfl rfl rfl rfl rfl rfl rfl ⟨rfl, rfl, rfl, rfl, rfl⟩ rfl rfl rfl rfl rfl (by kernel_rfl) Try.func3 (by kernel_rfl)
    (of_decide_eq_true (by kernel_rfl)) (by unfold Func.isWrapper; first | (rw [if_pos (by decide +kernel)]; kernel_rfl) | (rw [if_neg (by decide +kernel)]; exact ⟨rfl, rfl⟩))
    (fun os started H enc _ => lifted os started H enc)

/-- the statement -/
theorem proved : Rows.ChachaQuarterBackSaid :=
  over
#print axioms proved
end Go.Proofs.Ytejgnjnmlojdpaa.chachaQuarterBack
