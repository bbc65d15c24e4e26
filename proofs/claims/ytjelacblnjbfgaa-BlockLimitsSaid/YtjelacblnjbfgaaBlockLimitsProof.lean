/-
  The law BlockLimits of package dominolaw10 returns true for every size and every number of records: a size that may not be, as many records as a block has, and one more.
-/
import Derived.Test.YtjelacblnjbfgaaRows
import Derived.WalkKit
import Derived.ProofKit
import Derived.OpenShut
import Derived.ShutString
import Derived.ChangeOld
import Derived.Below
import Derived.Test.YtjelacblnjbfgaaB10
import Derived.Test.YtjelacblnjbfgaaB8
import Derived.Test.YtjelacblnjbfgaaB5
import Derived.Test.YtjelacblnjbfgaaB11
namespace Go.Proofs.Ytjelacblnjbfgaa.blockLimits
open Go.ChangeShapes Go.WideShapes Go.ChangeAt Go.RowKit
open Go.ChangeMaps (open_string shut_string)
open Go.Shelf Go.Proofs.Ytjelacblnjbfgaa.Mem Go.Proofs.Ytjelacblnjbfgaa.Help Go.Proofs.Ytjelacblnjbfgaa.Sum Go.Proofs.Ytjelacblnjbfgaa.Po Go.Proofs.Ytjelacblnjbfgaa.Ky Go.Proofs.Ytjelacblnjbfgaa.Ct Go.Proofs.Ytjelacblnjbfgaa.Bit Go.Proofs.Ytjelacblnjbfgaa.Held Go.Proofs.Ytjelacblnjbfgaa.Rc Go.Proofs.Ytjelacblnjbfgaa.Rs Go.Proofs.Ytjelacblnjbfgaa
set_option linter.unusedVariables false

theorem own : ownKnob Try.prog.godebug = none := by kernel_rfl
theorem laidOut : laidOutB Try.prog = true := by kernel_rfl

/-- what a slice that came in leads to -/
def IsRow (k : IntKind) (w : World) (a : Option Addr) (len cap : Nat) (zs : List Int) : Prop :=
  (a = none ∧ len = 0 ∧ cap = 0 ∧ zs = []) ∨
  ∃ x, a = some x ∧ len ≤ cap ∧ cap ≤ maxLen ∧ zs.length = cap ∧ (∀ i, i < zs.length → w.cell? (x.add i) = some (.int k (zs.getD i 0))) ∧ ∀ n ∈ zs, (Lit.int k n).wf = true

attribute [local irreducible] wpList Calls

theorem made_recs {n : Nat} (h : n < 12) : (madeCells (Value.agg #[.bool false, .int .i64 0, .int .i64 0, .int .i64 0]).cells (n * 4)).toList = flat (List.replicate n R0) := by
  have hc : (Value.agg #[.bool false, .int .i64 0, .int .i64 0, .int .i64 0]).cells = #[.bool false, .int .i64 0, .int .i64 0, .int .i64 0] := by simp [Value.cells]
  rw [hc]
  have : n = 0 ∨ n = 1 ∨ n = 2 ∨ n = 3 ∨ n = 4 ∨ n = 5 ∨ n = 6 ∨ n = 7 ∨ n = 8 ∨ n = 9 ∨ n = 10 ∨ n = 11 := by omega
  rcases this with rfl | rfl | rfl | rfl | rfl | rfl | rfl | rfl | rfl | rfl | rfl | rfl <;> simp [madeCells, flat, R.cells, R0, List.range_succ, List.replicate]
set_option maxRecDepth 100000 in
set_option maxHeartbeats 16000000 in
theorem start (size x : Int) (hx : (Lit.int .i64 x).wf = true) (hsz : (Lit.int .i64 size).wf = true) (u : World) :
    Calls Try.prog 4 #[.int .i64 size, .int .i64 x] u fun e u' => e = .returned (.bool true) ∧ Below u.heap.size u u' := by
  obtain ⟨ie, hie, hsb⟩ := Option.map_eq_some_iff.1 info_recs
  simp only [Prod.mk.injEq] at hsb
  obtain ⟨hes, hby⟩ := hsb
  have hzr : ie.zero = some (.agg #[.bool false, .int .i64 0, .int .i64 0, .int .i64 0]) := by
    have := zero_rec
    rw [hie] at this
    exact this
  obtain ⟨N, hN, hN2⟩ : ∃ N : Nat, wrap64 ((IntKind.u64.wrap x).tmod 12) = (N : Int) ∧ N < 12 := by
    have hu0 : 0 ≤ IntKind.u64.wrap x := by rw [IntKind.wrap_u64]; omega
    have h1 : 0 ≤ IntKind.u64.wrap x % 12 := Int.emod_nonneg _ (by omega)
    have h2 : IntKind.u64.wrap x % 12 < 12 := Int.emod_lt_of_pos _ (by omega)
    rw [Int.tmod_eq_emod_of_nonneg hu0]
    exact ⟨(IntKind.u64.wrap x % 12).toNat, by unfold wrap64; omega, by omega⟩
  have HM := Lib.hid (made_recs hN2)
  go_enter Try.func4, Try.ntmps4
  go_wp2_with (at_make; refine wpList_make_full u rfl _ _ 22 rfl u.heap.size 27 ie _ 4 Try.underlying22 hie hzr hes .i64 .i64 _ _ N rfl rfl hN hN (by rw [hby]; omega) (by unfold maxLen; omega) (Nat.le_refl _) ?_; intro w1 o1 g1)
  rw [HM.out] at o1
  have i1 : Recs w1 w1.heap.size (some ⟨u.heap.size, 0, none⟩) N (List.replicate N R0) := OwnR.recs (base := u.heap.size) (c := N) (rs := List.replicate N R0) (by unfold OwnR; rw [List.length_replicate]; exact o1) (fun r hr => by rw [List.eq_of_mem_replicate hr]; exact ⟨rfl, rfl, rfl⟩)
  have b1 : Below u.heap.size u w1 := (Below.refl _ u).grown g1 (Nat.le_refl _) (by simp)
  refine (packs_any w1.heap.size _ N N _ size w1 i1 (Nat.le_refl _)).mono ?_
  rintro e w2 ⟨A', n', c', rfl, hl, o2, b2⟩
  have b2 := b1.trans (b2.mono b1.size)
  clear i1 o1 g1 b1 o2 HM hN hx
  by_cases hs : mayS size = true
  · have hb : 1 ≤ size ∧ size ≤ 8 := by simpa [mayS] using hs
    obtain ⟨hb1, hb2⟩ := hb
    have q1 : ¬ size < 1 := by omega
    have q2 : ¬ 8 < size := by omega
    by_cases hgt : size < (N : Int)
    · have HE := Lib.hid (show packE N size = 5 by rw [packE, if_neg (by simp [hs]), if_pos hgt])
      have hn : n' = 0 := by rw [← hl.out, packB, if_neg (fun h => by have := h.2; rw [List.length_replicate] at this; omega)]; rfl
      subst hn
      rw [HE.out]
      clear hs hl
      go_wp2_with fail
      refine (awake10_any w2).mono ?_
      rintro e w3 ⟨rfl, b3⟩
      have b3 := b2.trans (b3.mono b2.size)
      go_wp2_with fail
      go_ret
      exact ⟨rfl, b3⟩
    · have HE := Lib.hid (show packE N size = 0 by rw [packE, if_neg (by simp [hs]), if_neg hgt])
      have hn : (n' : Int) = 32 * size := by rw [← hl.out]; exact packB_length hs (by rw [List.length_replicate]; omega)
      have hwr : IntKind.i64.wrap (32 * size) = (n' : Int) := by rw [IntKind.wrap_i64]; omega
      rw [HE.out]
      clear hs hl
      go_wp2_with fail
      refine (awake10_any w2).mono ?_
      rintro e w3 ⟨rfl, b3⟩
      have b3 := b2.trans (b3.mono b2.size)
      go_wp2_with fail
      go_ret
      exact ⟨rfl, b3⟩
  · have hs' : mayS size = false := by simpa using hs
    have HE := Lib.hid (show packE N size = 1 by rw [packE, if_pos hs'])
    have hn : n' = 0 := by rw [← hl.out, packB, if_neg (fun h => hs h.1)]; rfl
    subst hn
    rw [HE.out]
    have hor : size < 1 ∨ 8 < size := by
      by_cases h1 : 1 ≤ size
      · by_cases h2 : size ≤ 8
        · exact absurd (by simp [mayS, h1, h2]) hs
        · exact .inr (by omega)
      · exact .inl (by omega)
    clear hs hs' hl
    rcases hor with q1 | q1
    · go_wp2_with fail
      refine (awake10_any w2).mono ?_
      rintro e w3 ⟨rfl, b3⟩
      have b3 := b2.trans (b3.mono b2.size)
      go_wp2_with fail
      go_ret
      exact ⟨rfl, b3⟩
    · have q2 : ¬ size < 1 := by omega
      go_wp2_with fail
      refine (awake10_any w2).mono ?_
      rintro e w3 ⟨rfl, b3⟩
      have b3 := b2.trans (b3.mono b2.size)
      go_wp2_with fail
      go_ret
      exact ⟨rfl, b3⟩

theorem walk (a0 : Int) (a1 : Int) (w : World) (w0 : (Lit.int .i64 a0).wf = true) (w1 : (Lit.int .i64 a1).wf = true) :
    Calls Try.prog 4 #[.int .i64 a0, .int .i64 a1] w fun e w' => e = .returned (.bool true) ∧ Below w.heap.size w w' := by
  exact start a0 a1 w1 w0 w

set_option maxRecDepth 100000 in
theorem lifted (os : Os) (started : os.Started) (H : Type) (enc : TypeId × Value → H) :
    ReturnsInHanded {} Try.checked os 4 .any (Rows.blockLimitsSpec.pre6 enc Try.prog Try.f4 Rows.blockLimitsRow.domain false) (Rows.blockLimitsSpec.post enc Try.prog Try.f4 false true false false) := by
  refine returnsInHanded_of_change (C := Try.checked) own started (by kernel_rfl) Try.func4
    (ChangeSpec.witness6 (enc := enc) (C := Try.checked) false ⟨#[], #[.int .i64 0, .int .i64 0], []⟩ 8 (by kernel_rfl) (by kernel_rfl) (by kernel_rfl) (by kernel_rfl)) ?_
  intro W base args ds gs before hval0 hW hcnd _
  have hval : ∀ (j : Nat) t v, Try.f4.params[j]? = some t → args[j]? = some v → Value.okWide Try.prog W .any base t v := hval0
  have hW' := hW
  obtain ⟨p, q, hA0, hV, rfl, hfz, hnd⟩ := hW
  have hA : DataW.TrodAll enc Try.prog W 0 (fun _ => true) true Try.f4.params.toList args.toList ds p := hA0
  rw [Try.params4] at hA hval
  obtain ⟨v0, vs0, d0, ds0, p0, q0, hargs, rfl, rfl, h0, r0⟩ := trodAll_cons hA
  obtain ⟨v1, vs1, d1, ds1, p1, q1, rfl, rfl, rfl, h1, r1⟩ := trodAll_cons r0
  obtain ⟨rfl, rfl, rfl⟩ := trodAll_nil r1
  obtain rfl : args = #[v0, v1] := by cases args; simp_all
  obtain ⟨rfl, rfl⟩ := trodVars_none hV
  obtain ⟨a0, rfl, rfl, rfl, w0⟩ := open_int Try.underlying3 (hval 0 3 v0 rfl rfl) h0
  obtain ⟨a1, rfl, rfl, rfl, w1⟩ := open_int Try.underlying3 (hval 1 3 v1 rfl rfl) h1
  clear hA0 hval0
  refine (walk a0 a1 W w0 w1).mono fun e W' ⟨he, bel⟩ => ?_
  subst he
  exact ⟨_, rfl, _, _, _, [], _, [], hW', trodAll_mk1 (shut_bool Try.underlying4 _), (trodAll_cons_mk (shut_int Try.underlying3 w0) (trodAll_cons_mk (shut_int Try.underlying3 w1) trodAll_mk0)), rfl, bel.frame _, fun h => by cases h⟩

theorem over : Rows.blockLimitsRow.holds Try.pinned (OpenSpec.ofChange Rows.blockLimitsSpec) :=
  OpenClaim.holds_of_wide 4 Try.f4 rfl rfl rfl rfl rfl rfl rfl ⟨rfl, rfl, rfl, rfl, rfl⟩ rfl rfl rfl rfl rfl (by kernel_rfl) Try.func4 (by kernel_rfl)
    (of_decide_eq_true (by kernel_rfl)) (by unfold Func.isWrapper; first | (rw [if_pos (by decide +kernel)]; kernel_rfl) | (rw [if_neg (by decide +kernel)]; exact ⟨rfl, rfl⟩))
    (fun os started H enc _ => lifted os started H enc)

/-- the statement -/
theorem proved : Rows.BlockLimitsSaid :=
  over
#print axioms proved
end Go.Proofs.Ytjelacblnjbfgaa.blockLimits
