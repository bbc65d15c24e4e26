/-
  The law BitonicPadded of package dominolaw13 returns true for every number: what is told is the least power of two that is no less, within its bounds; as many rounds as stages, and their steps, together.
-/
import Derived.Test.YtagcnbcmegdgmaaDoorRows
import Derived.Test.YtagcnbcmegdgmaaDoorCards
import Derived.Test.YtagcnbcmegdgmaaDoorTie
import Derived.SevenTiedAt
import Derived.WalkKit
import Derived.ProofKit
import Derived.OpenShut
import Derived.ShutString
import Derived.ChangeOld
import Derived.Below
import Derived.LaidMore
import Derived.Stop.Joined
import Derived.Test.YtagcnbcmegdgmaaDoorB2
namespace Go.Proofs.YtagcnbcmegdgmaaDoor.bitonicPadded
open Go.ChangeShapes Go.WideShapes Go.ChangeAt Go.RowKit
open Go.ChangeMaps (open_string shut_string)
open Go.Shelf Go.Proofs.YtagcnbcmegdgmaaDoor Mem Held Bi
theorem own : ownKnob Tryd.prog.godebug = none := by kernel_rfl
def laidList : List (String × DataW Unit) := [("math/bits.deBruijn32tab", Rows.laid_math_bits_deBruijn32tab), ("math/bits.deBruijn64tab", Rows.laid_math_bits_deBruijn64tab)]
attribute [local irreducible] wpList wpListIn Calls
theorem and_less (s : Nat) (h : s ≤ 16) : bits .and .i64 (2 ^ s) (2 ^ s - 1) = 0 := by
  have : ∀ s : Fin 17, bits .and .i64 (2 ^ s.val) (2 ^ s.val - 1) = 0 := by decide +kernel
  exact this ⟨s, by omega⟩
theorem half_pow {j : Nat} (h : 1 ≤ j) (h2 : j ≤ 16) : IntKind.i64.wrap ((2 ^ j : Int).tdiv 2) = 2 ^ (j - 1) := by
  obtain ⟨q, rfl⟩ : ∃ q, j = q + 1 := ⟨j - 1, by omega⟩
  have := two_pos q
  have := two_16 (show q ≤ 16 by omega)
  rw [two_succ, Int.tdiv_eq_ediv_of_nonneg (by omega), Nat.add_sub_cancel, IntKind.wrap_i64]
  omega
set_option maxRecDepth 100000 in
set_option maxHeartbeats 8000000 in
theorem start (n : Int) (w : World) (h0 : -9223372036854775808 ≤ n) (h1 : n ≤ 9223372036854775807) (hT : TzT w) :
    Calls Tryd.prog 6 #[.int .i64 n] w fun e w' => e = .returned (.bool true) ∧ Below w.heap.size w w' := by
  have H1 := padded_any n w h0 h1
  have HA := awake13_any w hT
  have hs := padS_le n
  have hp : padV n = 2 ^ padS n := rfl
  have hst := stg_pow hs
  have hup := padF_up 16 0 n
  have hlow := padF_low 16 0 n
  change n ≤ 2 ^ padS n ∨ padS n = 0 + 16 at hup
  change 0 < padS n → (2 : Int) ^ (padS n - 1) < n at hlow
  have p1 := two_pos (padS n)
  have p2 := two_16 hs
  have hR := rounds_any (2 ^ padS n) w (by omega) (by omega) hT
  rw [hst] at hR
  rw [hp] at H1
  have hand := and_less (padS n) hs
  generalize padS n = s at *
  have HT2 := Lib.hid (fun k => tri_succ k)
  have HT3 := Lib.hid (fun k (h : k ≤ 16) => tri_le h)
  have HHP := Lib.hid (fun j (h : 1 ≤ j) (h2 : j ≤ 16) => half_pow h h2)
  have HTW := Lib.hid two_pos
  have HTS := Lib.hid (fun j (h : j ≤ 16) => two_16 h)
  have HT1 := Lib.hid (fun (j : Nat) (h : 1 ≤ j) => show (2 : Int) ≤ 2 ^ j by have := two_mono h; simpa using this)
  obtain ⟨m, hm⟩ : ∃ m, (if (65536 : Int) < n then 65536 else n) = m := ⟨_, rfl⟩
  have e1 : decide ((2 : Int) ^ s < 1) = false := by simp; omega
  have e2 : decide ((65536 : Int) < 2 ^ s) = false := by simp; omega
  have e4 : decide ((2 : Int) ^ s < m) = false := by
    simp only [decide_eq_false_iff_not]
    rcases hup with h | h
    · split at hm <;> omega
    · rw [h] at p1 p2 ⊢
      rw [show (2 : Int) ^ (0 + 16) = 65536 by decide]
      split at hm <;> omega
  have e5 : ((2 : Int) ^ s = 1 ∧ s = 0) ∨ (1 < (2 : Int) ^ s ∧ 1 ≤ s ∧ ¬ n ≤ 2 ^ (s - 1)) := by
    rcases Nat.eq_zero_or_pos s with h | h
    · left; rw [h]; simp
    · right
      have := HT1.out s h
      have := hlow h
      exact ⟨by omega, h, by omega⟩
  have hsub : IntKind.i64.wrap ((2 : Int) ^ s - 1) = 2 ^ s - 1 := by rw [IntKind.wrap_i64]; omega
  have HP := Lib.hid (show (2 : Int) ^ s = 2 ^ s from rfl)
  obtain ⟨p, hpp⟩ : ∃ p : Int, 2 ^ s = p := ⟨_, rfl⟩
  rw [hpp] at H1 hR p1 p2 hand e1 e2 e4 e5 hsub
  have HPP := Lib.hid hpp
  have ph : 1 ≤ s → IntKind.i64.wrap (p.tdiv 2) = 2 ^ (s - 1) := fun h => by rw [← hpp]; exact half_pow h hs
  obtain ⟨pm, hpm⟩ : ∃ x, p - 1 = x := ⟨_, rfl⟩
  rw [hpm] at hand hsub
  have main : ∀ (b : Bool), decide ((1 : Int) < p) = b → (b = true → 1 ≤ s ∧ ¬ n ≤ 2 ^ (s - 1)) → Calls Tryd.prog 6 #[.int .i64 n] w fun e w' => e = .returned (.bool true) ∧ Below w.heap.size w w' := by
    intro b hb hbs
    have hh : b = true → ∃ h : Int, (∀ W : World, (binOp .quo 3 (.int .i64 p) (.int .i64 2)).run Tryd.prog W = .ok (.int .i64 h) W) ∧ decide (n ≤ h) = false := fun hb => by
      obtain ⟨k1, k2⟩ := hbs hb
      exact ⟨2 ^ (s - 1), fun W => Held.run_quo 3 .i64 (by omega) (ph k1) W, by simp; omega⟩
    have HB := Lib.hid hb
    clear hpp hlow hup e5 hp hst hb hbs ph
    cases b with
    | false =>
      have hb := HB.out
      go_enter Tryd.func6, Tryd.ntmps6
      go_wp2_with fail
      refine H1.mono ?_
      rintro e w1 ⟨rfl, rfl⟩
      go_wp2_with fail
      refine HA.mono ?_
      rintro e w1 ⟨rfl, rfl⟩
      go_wp2_with (first
        | (refine Held.wpList_run (w := w) rfl (v := .int .i64 pm) (Held.y_int (S := fun _ => True) rfl rfl rfl (Held.run_sub 3 .i64 hsub) _ trivial) ?_; simp only [Act.put, Z1, Z2, Z3])
        | (refine Held.wpList_run (w := w) rfl (v := .int .i64 0) (Held.y_int (S := fun _ => True) rfl rfl rfl (Held.run_bitop (by simp) 3 .i64 hand) _ trivial) ?_; simp only [Act.put, Z1, Z2, Z3])
        | (refine Held.wpList_run (w := w) rfl (v := .int .i64 m) (Held.y_min (S := fun _ => True) rfl rfl rfl hm _ trivial) ?_; simp only [Act.put, Z1, Z2, Z3]))
      clear H1 HA e1 e2 e4 hand hsub hpm hm
      have hsz : s ≤ 16 := hs
      go_loopw [4, 5, 6] (fun wv sv kv wr => ∃ (j q tq : Nat) (k : Int), wv = .int .i64 (tq : Int) ∧ sv = .int .i64 (q : Int) ∧ kv = .int .i64 k ∧ Hid (k = 2 ^ j) ∧ j + q = s ∧ Hid (tq = tri q) ∧ w = wr) (fun _ sv _ _ => 20 - (intOf sv).toNat)
      case atStart => exact ⟨s, 0, 0, p, rfl, rfl, rfl, Lib.hid HPP.out.symm, by omega, Lib.hid tri_zero.symm, rfl⟩
      case round =>
        obtain ⟨j, q, tq, k, rfl, rfl, rfl, hk, hjq, htq, rfl⟩ := hrel
        have hq3 := HT3.out q (by omega)
        rw [← htq.out] at hq3
        have k1 := HTW.out j
        have k2 := HTS.out j (by omega)
        rw [← hk.out] at k1 k2
        by_cases hj : 1 ≤ j
        · have hk2 := HT1.out j hj
          rw [← hk.out] at hk2
          have hkk : (1 : Int) < k := by omega
          have hqu := HHP.out j hj (by omega)
          rw [← hk.out] at hqu
          have HN := Lib.hid (show (2 : Int) ^ (j - 1) = 2 ^ (j - 1) from rfl)
          obtain ⟨k3, hk3⟩ : ∃ x : Int, 2 ^ (j - 1) = x := ⟨_, rfl⟩
          rw [hk3] at hqu
          have HK3 := Lib.hid hk3.symm
          have hqr := fun W : World => Held.run_quo (P := Tryd.prog) 3 .i64 (a := k) (b := 2) (r := k3) (by omega) hqu W
          have HTN := Lib.hid (show tq + (q + 1) = tri (q + 1) by rw [HT2.out, htq.out])
          clear hk3 hqu HN
          go_wp2_with (refine Held.wpList_run (w := w) rfl (v := .int .i64 k3) (y_quo (S := fun _ => True) k 2 rfl rfl rfl hqr _ trivial) ?_)
          go_roundw
          case rel => exact ⟨j - 1, q + 1, tq + (q + 1), k3, by go_num, by go_num, rfl, HK3, by omega, HTN, trivial⟩
          case measure => simp [intOf]; omega
        · have hj0 : j = 0 := by omega
          have hk0 : ¬ (1 : Int) < k := by have := hk.out; rw [hj0] at this; omega
          have hqs : q = s := by omega
          have HEQ := Lib.hid (show tri s = tq by rw [htq.out, hqs])
          rw [HEQ.out] at hR
          have hd : decide ((tq : Int) = (tq : Int)) = true := by simp
          clear hqs hj0
          go_wp2_with fail
          refine hR.mono ?_
          rintro e w1 ⟨rfl, rfl⟩
          go_wp2_with fail
          go_ret
          exact ⟨by simp, Below.refl _ _⟩
    | true =>
      have hb := HB.out
      obtain ⟨hf, hq2, e6⟩ := hh rfl
      clear hh
      go_enter Tryd.func6, Tryd.ntmps6
      go_wp2_with fail
      refine H1.mono ?_
      rintro e w1 ⟨rfl, rfl⟩
      go_wp2_with fail
      refine HA.mono ?_
      rintro e w1 ⟨rfl, rfl⟩
      go_wp2_with (first
        | (refine Held.wpList_run (w := w) rfl (v := .int .i64 pm) (Held.y_int (S := fun _ => True) rfl rfl rfl (Held.run_sub 3 .i64 hsub) _ trivial) ?_; simp only [Act.put, Z1, Z2, Z3])
        | (refine Held.wpList_run (w := w) rfl (v := .int .i64 0) (Held.y_int (S := fun _ => True) rfl rfl rfl (Held.run_bitop (by simp) 3 .i64 hand) _ trivial) ?_; simp only [Act.put, Z1, Z2, Z3])
        | (refine Held.wpList_run (w := w) rfl (v := .int .i64 hf) (y_quo (S := fun _ => True) p 2 rfl rfl rfl hq2 _ trivial) ?_; simp only [Act.put, Z1, Z2, Z3])
        | (refine Held.wpList_run (w := w) rfl (v := .int .i64 m) (Held.y_min (S := fun _ => True) rfl rfl rfl hm _ trivial) ?_; simp only [Act.put, Z1, Z2, Z3]))
      clear H1 HA e6 hq2 e1 e2 e4 hand hsub hpm hm
      have hsz : s ≤ 16 := hs
      go_loopw [4, 5, 6] (fun wv sv kv wr => ∃ (j q tq : Nat) (k : Int), wv = .int .i64 (tq : Int) ∧ sv = .int .i64 (q : Int) ∧ kv = .int .i64 k ∧ Hid (k = 2 ^ j) ∧ j + q = s ∧ Hid (tq = tri q) ∧ w = wr) (fun _ sv _ _ => 20 - (intOf sv).toNat)
      case atStart => exact ⟨s, 0, 0, p, rfl, rfl, rfl, Lib.hid HPP.out.symm, by omega, Lib.hid tri_zero.symm, rfl⟩
      case round =>
        obtain ⟨j, q, tq, k, rfl, rfl, rfl, hk, hjq, htq, rfl⟩ := hrel
        have hq3 := HT3.out q (by omega)
        rw [← htq.out] at hq3
        have k1 := HTW.out j
        have k2 := HTS.out j (by omega)
        rw [← hk.out] at k1 k2
        by_cases hj : 1 ≤ j
        · have hk2 := HT1.out j hj
          rw [← hk.out] at hk2
          have hkk : (1 : Int) < k := by omega
          have hqu := HHP.out j hj (by omega)
          rw [← hk.out] at hqu
          have HN := Lib.hid (show (2 : Int) ^ (j - 1) = 2 ^ (j - 1) from rfl)
          obtain ⟨k3, hk3⟩ : ∃ x : Int, 2 ^ (j - 1) = x := ⟨_, rfl⟩
          rw [hk3] at hqu
          have HK3 := Lib.hid hk3.symm
          have hqr := fun W : World => Held.run_quo (P := Tryd.prog) 3 .i64 (a := k) (b := 2) (r := k3) (by omega) hqu W
          have HTN := Lib.hid (show tq + (q + 1) = tri (q + 1) by rw [HT2.out, htq.out])
          clear hk3 hqu HN
          go_wp2_with (refine Held.wpList_run (w := w) rfl (v := .int .i64 k3) (y_quo (S := fun _ => True) k 2 rfl rfl rfl hqr _ trivial) ?_)
          go_roundw
          case rel => exact ⟨j - 1, q + 1, tq + (q + 1), k3, by go_num, by go_num, rfl, HK3, by omega, HTN, trivial⟩
          case measure => simp [intOf]; omega
        · have hj0 : j = 0 := by omega
          have hk0 : ¬ (1 : Int) < k := by have := hk.out; rw [hj0] at this; omega
          have hqs : q = s := by omega
          have HEQ := Lib.hid (show tri s = tq by rw [htq.out, hqs])
          rw [HEQ.out] at hR
          have hd : decide ((tq : Int) = (tq : Int)) = true := by simp
          clear hqs hj0
          go_wp2_with fail
          refine hR.mono ?_
          rintro e w1 ⟨rfl, rfl⟩
          go_wp2_with fail
          go_ret
          exact ⟨by simp, Below.refl _ _⟩
  rcases e5 with ⟨e5, e6⟩ | ⟨e5, e6, e7⟩
  · exact main false (by simp; omega) (fun h => by cases h)
  · exact main true (by simp; omega) (fun _ => ⟨e6, e7⟩)
theorem walk (a0 : Int) (w : World) (w0 : (Lit.int .i64 a0).wf = true) (hL : laidMetH Tryd.prog laidList w) :
    Calls Tryd.prog 6 #[.int .i64 a0] w fun e w' => e = .returned (.bool true) ∧ Below w.heap.size w w' := by
  exact start a0 w (rng w0).1 (rng w0).2 (bits_of_laid hL)
set_option maxRecDepth 100000 in
theorem door_met (os : Os) (args : Array Value) : laidMetH Tryd.prog laidList ((World.doorLaid Tryd.prog 400 os).forCall (fun _ _ => 0) ⟨#[], args, []⟩).memory :=
  laidMetH_of_parts3 (fuel := 8) (laidMet_of_run' 8 (by kernel_rfl) (by kernel_rfl)) (by kernel_rfl) (by kernel_rfl)
set_option maxRecDepth 100000 in
theorem lifted (os : Os) (started : os.Started) (H : Type) (enc : TypeId × Value → H) :
    ReturnsInHanded {} Tryd.checked os 6 .any (fun w args => (Rows.bitonicPaddedSpec.pre enc Tryd.prog Tryd.f6 [] false w args ∧ laidMetH Tryd.prog laidList w) ∧ sizedMet enc Tryd.prog Tryd.f6 (OpenSpec.ofChange Rows.bitonicPaddedSpec) false w args)
      (Rows.bitonicPaddedSpec.post enc Tryd.prog Tryd.f6 false true false false) := by
  refine returnsInHanded_of_change_and (C := Tryd.checked) (X := fun w _ => laidMetH Tryd.prog laidList w) (fun _ _ _ hh h => h.of_heap hh) own started (by kernel_rfl) Tryd.func6
    (ChangeSpec.witness_shaped (enc := enc) (C := Tryd.checked) (os := os) (X := fun w _ => laidMetH Tryd.prog laidList w) false (World.doorLaid Tryd.prog 400 os) #[.int .i64 0] 8 rfl (World.shaped_of_RefB (by kernel_rfl) (by kernel_rfl)) (by kernel_rfl) (by kernel_rfl) (by kernel_rfl) (door_met os _)) ?_
  intro W base args ds gs before hval0 hW _ _ hL _
  have hval : ∀ (j : Nat) t v, Tryd.f6.params[j]? = some t → args[j]? = some v → Value.okWide Tryd.prog W .any base t v := hval0
  have hW' := hW
  obtain ⟨p, q, hA0, hV, rfl, hfz, hnd⟩ := hW
  have hA : DataW.TrodAll enc Tryd.prog W 0 (fun _ => true) true Tryd.f6.params.toList args.toList ds p := hA0
  rw [Tryd.params6] at hA hval
  obtain ⟨v0, vs0, d0, ds0, p0, q0, hargs, rfl, rfl, h0, r0⟩ := trodAll_cons hA
  obtain ⟨rfl, rfl, rfl⟩ := trodAll_nil r0
  obtain rfl : args = #[v0] := by cases args; simp_all
  obtain ⟨rfl, rfl⟩ := trodVars_none hV
  obtain ⟨a0, rfl, rfl, rfl, w0⟩ := open_int Tryd.underlying3 (hval 0 3 v0 rfl rfl) h0
  clear hA0 hval0
  refine (walk a0 W w0 hL).mono fun e W' ⟨he, bel⟩ => ?_
  subst he
  exact ⟨_, rfl, _, _, _, [], _, [], hW', trodAll_mk1 (shut_bool Tryd.underlying4 _), (trodAll_cons_mk (shut_int Tryd.underlying3 w0) trodAll_mk0), rfl, bel.frame _, fun h => by cases h⟩
theorem over : Rows.bitonicPaddedRow.holds Tryd.pinned (OpenSpec.ofChange Rows.bitonicPaddedSpec) :=
  OpenClaim.holds_of_wide 6 Tryd.f6 rfl rfl rfl rfl rfl rfl rfl ⟨rfl, rfl, rfl, rfl, rfl⟩ rfl rfl rfl rfl rfl (by kernel_rfl) Tryd.func6 (by kernel_rfl)
    (of_decide_eq_true (by kernel_rfl)) (by unfold Func.isWrapper; first | (rw [if_pos (by decide +kernel)]; kernel_rfl) | (rw [if_neg (by decide +kernel)]; exact ⟨rfl, rfl⟩))
    (fun os started H enc _ => lifted os started H enc)
theorem proved : Rows.BitonicPaddedCardSaid :=
  Claim7.holds_tied_plain_at .later [] [.data, .data] true (true, "fe6b619c45518272eea54a06a8755bdeb49c69dd8d85b33a095b4b463a443c00") false
    over (fun _ h => by cases h) (by kernel_rfl) (fun _ h => by cases h) bitonicPadded_row_tie rfl ⟨rfl, rfl⟩ (by kernel_rfl) rfl
    (fun f fn hf hfn => by
      obtain rfl : f = 6 := Option.some.inj ((show Tryd.prog.funcNamed "domino/dominolaw13.BitonicPadded" = some 6 by kernel_rfl).symm.trans hf) |>.symm
      obtain rfl : fn = Tryd.f6 := (Option.some.inj (Tryd.func6.symm.trans hfn)).symm
      exact ⟨by kernel_rfl, fun j t ht => by
        rw [Tryd.params6] at ht
        have hm : t ∈ [3] := by simpa using Array.mem_of_getElem? ht
        have hall : ([3].all fun u => !Tryd.prog.wantsStandIn u) = true := by kernel_rfl
        exact (show Tryd.prog.wantsStandIn t = false by simpa using List.all_eq_true.1 hall t hm)⟩)
    (by kernel_rfl)
#print axioms proved
end Go.Proofs.YtagcnbcmegdgmaaDoor.bitonicPadded
