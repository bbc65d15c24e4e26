/-
  The law HkdfLimit of package dominolaw04 returns true for both of its arguments: as many bytes as may be, and one more; none. The tables of package sha hold what the program's text lays.
-/
import Derived.Test.YtbfdhbobokfbhaaDoorRows
import Derived.Test.YtbfdhbobokfbhaaDoorCards
import Derived.Test.YtbfdhbobokfbhaaDoorTie
import Derived.SevenTiedAt
import Derived.WalkKit
import Derived.ProofKit
import Derived.OpenShut
import Derived.ShutString
import Derived.ChangeOld
import Derived.Below
import Derived.LaidMore
import Derived.Stop.Joined
import Derived.Test.YtbfdhbobokfbhaaDoorHkA
import Derived.Test.YtbfdhbobokfbhaaDoorLaid
namespace Go.Proofs.YtbfdhbobokfbhaaDoor.hkdfLimit
open Go.ChangeShapes Go.WideShapes Go.ChangeAt Go.RowKit
open Go.ChangeMaps (open_string shut_string)
open Go.Shelf Go.Proofs.YtbfdhbobokfbhaaDoor.Mem Go.Proofs.YtbfdhbobokfbhaaDoor.Help Go.Proofs.YtbfdhbobokfbhaaDoor.Sum Go.Proofs.YtbfdhbobokfbhaaDoor.Sha Go.Proofs.YtbfdhbobokfbhaaDoor.Mac Go.Proofs.YtbfdhbobokfbhaaDoor.Hkdf Go.Proofs.YtbfdhbobokfbhaaDoor
set_option linter.unusedVariables false

theorem own : ownKnob Tryd.prog.godebug = none := by kernel_rfl
theorem laidOut : laidOutB Tryd.prog = true := by kernel_rfl

/-- what a slice that came in leads to -/
def IsRow (k : IntKind) (w : World) (a : Option Addr) (len cap : Nat) (zs : List Int) : Prop :=
  (a = none ∧ len = 0 ∧ cap = 0 ∧ zs = []) ∨
  ∃ x, a = some x ∧ len ≤ cap ∧ cap ≤ maxLen ∧ zs.length = cap ∧ (∀ i, i < zs.length → w.cell? (x.add i) = some (.int k (zs.getD i 0))) ∧ ∀ n ∈ zs, (Lit.int k n).wf = true

def laidList : List (String × DataW Unit) := [("domino/sha.start", Rows.laid_domino_sha_start), ("domino/sha.words", Rows.laid_domino_sha_words)]

attribute [local irreducible] wpList
def key3 : List Int := [3, 0, 0, 0, 0, 0, 0, 0, 0, 0, 0, 0, 0, 0, 0, 0, 0, 0, 0, 0, 0, 0, 0, 0, 0, 0, 0, 0, 0, 0, 0, 0]
theorem key3_wf : ∀ z ∈ key3, (Lit.int .u8 z).wf = true := by decide
theorem expand_most (w : World) (hT0 : Tab w 0 Sum.H0) (hT1 : Tab w 1 Sum.K) :
    Calls Tryd.prog 10 #[.agg (arr .u8 key3), .slice none 0 0, .int .i64 8160] w fun e w' => ∃ g, e = .returned (.tuple #[.slice (some ⟨g, 0, none⟩) 8160 8160, .int .i64 0]) ∧ w.heap.size ≤ g ∧ Row w' g 5 .u8 (out key3 [] 8160) ∧ Below w.heap.size w w' :=
  expand_any key3 [] rfl key3_wf w.heap.size none 0 0 8160 w (Ints.nil _ _ _ _) (Nat.le_refl _) (Nat.le_refl _) (by simp [maxLen]) (by omega) (by omega) (by omega) hT0 hT1

set_option maxRecDepth 100000 in
set_option maxHeartbeats 4000000 in
theorem start (more : Bool) (w : World) (hT : Tab w 0 Sum.H0 ∧ Tab w 1 Sum.K) :
    Calls Tryd.prog 6 #[.bool more] w fun e w' => e = .returned (.bool true) ∧ Below w.heap.size w w' := by
  cases more with
  | true =>
    go_enter Tryd.func6, Tryd.ntmps6
    go_wp2_with (refine wpList_build_Row rfl 25 _ rfl .u8 key3 (by kernel_rfl) ?_)
    refine (expand_bad key3 key3_wf none 0 0 8161 w (by omega)).mono ?_
    rintro e w1 ⟨rfl, b1⟩
    go_wp2_with (refine wpList_build_Row rfl 25 _ rfl .u8 key3 (by kernel_rfl) ?_)
    refine (expand_bad key3 key3_wf none 0 0 0 w1 (by omega)).mono ?_
    rintro e wz ⟨rfl, b2⟩
    have b := b1.trans (b2.mono b1.size)
    clear b1 b2
    go_wp2_with fail
    refine (awake4_any wz (hT.1.below b hT.1.lt) (hT.2.below b hT.2.lt)).mono ?_
    rintro e w3 ⟨rfl, b3⟩
    go_wp2_with fail
    go_ret
    exact ⟨rfl, b.trans (b3.mono b.size)⟩
  | false =>
    go_enter Tryd.func6, Tryd.ntmps6
    go_wp2_with (refine wpList_build_Row rfl 25 _ rfl .u8 key3 (by kernel_rfl) ?_)
    refine (expand_most w hT.1 hT.2).mono ?_
    rintro e w1 ⟨g, rfl, hg, rg, b1⟩
    go_wp2_with (refine wpList_build_Row rfl 25 _ rfl .u8 key3 (by kernel_rfl) ?_)
    refine (expand_bad key3 key3_wf none 0 0 0 w1 (by omega)).mono ?_
    rintro e wz ⟨rfl, b2⟩
    have b := b1.trans (b2.mono b1.size)
    clear b1 b2 rg
    go_wp2_with fail
    refine (awake4_any wz (hT.1.below b hT.1.lt) (hT.2.below b hT.2.lt)).mono ?_
    rintro e w3 ⟨rfl, b3⟩
    go_wp2_with fail
    go_ret
    exact ⟨rfl, b.trans (b3.mono b.size)⟩

theorem walk (a0 : Bool) (w : World)  (hL : laidMetH Tryd.prog laidList w) :
    Calls Tryd.prog 6 #[.bool a0] w fun e w' => e = .returned (.bool true) ∧ Below w.heap.size w w' := by
  exact start a0 w (sha_of_laid hL)

set_option maxRecDepth 100000 in
theorem door_met (os : Os) (args : Array Value) : laidMetH Tryd.prog laidList ((World.doorLaid Tryd.prog 400 os).forCall (fun _ _ => 0) ⟨#[], args, []⟩).memory :=
  laidMetH_of_parts3 (fuel := 8) (laidMet_of_run' 8 (by kernel_rfl) (by kernel_rfl)) (by kernel_rfl) (by kernel_rfl)

set_option maxRecDepth 100000 in
theorem lifted (os : Os) (started : os.Started) (H : Type) (enc : TypeId × Value → H) :
    ReturnsInHanded {} Tryd.checked os 6 .any (fun w args => (Rows.hkdfLimitSpec.pre enc Tryd.prog Tryd.f6 [] false w args ∧ laidMetH Tryd.prog laidList w) ∧ sizedMet enc Tryd.prog Tryd.f6 (OpenSpec.ofChange Rows.hkdfLimitSpec) false w args)
      (Rows.hkdfLimitSpec.post enc Tryd.prog Tryd.f6 false true false false) := by
  refine returnsInHanded_of_change_and (C := Tryd.checked) (X := fun w _ => laidMetH Tryd.prog laidList w) (fun _ _ _ hh h => h.of_heap hh) own started (by kernel_rfl) Tryd.func6
    (ChangeSpec.witness_shaped (enc := enc) (C := Tryd.checked) (os := os) (X := fun w _ => laidMetH Tryd.prog laidList w) false (World.doorLaid Tryd.prog 400 os) #[.bool false] 8 rfl (World.shaped_of_RefB (by kernel_rfl) (by kernel_rfl)) (by kernel_rfl) (by kernel_rfl) (by kernel_rfl) (door_met os _)) ?_
  intro W base args ds gs before hval0 hW _ _ hL _
  have hval : ∀ (j : Nat) t v, Tryd.f6.params[j]? = some t → args[j]? = some v → Value.okWide Tryd.prog W .any base t v := hval0
  have hW' := hW
  obtain ⟨p, q, hA0, hV, rfl, hfz, hnd⟩ := hW
  have hA : DataW.TrodAll enc Tryd.prog W 0 (fun _ => true) true Tryd.f6.params.toList args.toList ds p := hA0
  rw [Tryd.params6] at hA hval
  obtain ⟨v0, vs0, d0, ds0, p0, q0, hargs, rfl, rfl, h0, r0⟩ := trodAll_cons hA
  obtain ⟨rfl, rfl, rfl⟩ := trodAll_nil r0
  obtain rfl : args = #[v0] := by cases args; simp_all
  obtain ⟨rfl, rfl⟩ := trodVars_none hV
  obtain ⟨a0, rfl, rfl, rfl⟩ := open_bool Tryd.underlying4 (hval 0 4 v0 rfl rfl) h0
  clear hA0 hval0
  refine (walk a0 W  hL).mono fun e W' ⟨he, bel⟩ => ?_
  subst he
  exact ⟨_, rfl, _, _, _, [], _, [], hW', trodAll_mk1 (shut_bool Tryd.underlying4 _), (trodAll_cons_mk (shut_bool Tryd.underlying4 _) trodAll_mk0), rfl, bel.frame _, fun h => by cases h⟩

theorem over : Rows.hkdfLimitRow.holds Tryd.pinned (OpenSpec.ofChange Rows.hkdfLimitSpec) :=
  OpenClaim.holds_of_wide 6 Tryd.f6 rfl rfl rfl rfl rfl rfl rfl ⟨rfl, rfl, rfl, rfl, rfl⟩ rfl rfl rfl rfl rfl (by kernel_rfl) Tryd.func6 (by kernel_rfl)
    (of_decide_eq_true (by kernel_rfl)) (by unfold Func.isWrapper; first | (rw [if_pos (by decide +kernel)]; kernel_rfl) | (rw [if_neg (by decide +kernel)]; exact ⟨rfl, rfl⟩))
    (fun os started H enc _ => lifted os started H enc)

/-- the statement -/
theorem proved : Rows.HkdfLimitCardSaid :=
  Claim7.holds_tied_plain_at .later [] [.data, .data] true (true, "32f6b24c69c7a4d5a74b7e76ad39c8f9140722c6a5250b182338480d9edaa433") false
    over (fun _ h => by cases h) (by kernel_rfl) (fun _ h => by cases h) hkdfLimit_row_tie rfl ⟨rfl, rfl⟩ (by kernel_rfl) rfl
    (fun f fn hf hfn => by
      obtain rfl : f = 6 := Option.some.inj ((show Tryd.prog.funcNamed "domino/dominolaw04.HkdfLimit" = some 6 by kernel_rfl).symm.trans hf) |>.symm
      obtain rfl : fn = Tryd.f6 := (Option.some.inj (Tryd.func6.symm.trans hfn)).symm
      exact ⟨by kernel_rfl, fun j t ht => by
        rw [Tryd.params6] at ht
        have hm : t ∈ [4] := by simpa using Array.mem_of_getElem? ht
        have hall : ([4].all fun u => !Tryd.prog.wantsStandIn u) = true := by kernel_rfl
        exact (show Tryd.prog.wantsStandIn t = false by simpa using List.all_eq_true.1 hall t hm)⟩)
    (by kernel_rfl)
#print axioms proved
end Go.Proofs.YtbfdhbobokfbhaaDoor.hkdfLimit
