/-
  The law ShaWords of package dominolaw02 returns true for every number: the constants, and what stands behind a message of any length. The tables of package sha hold what the program's text lays.
-/
import Derived.Test.YtmnhdjjedppkmaaDoorRows
import Derived.Test.YtmnhdjjedppkmaaDoorCards
import Derived.Test.YtmnhdjjedppkmaaDoorTie
import Derived.SevenTiedAt
import Derived.WalkKit
import Derived.ProofKit
import Derived.OpenShut
import Derived.ShutString
import Derived.ChangeOld
import Derived.Below
import Derived.LaidMore
import Derived.Stop.Joined
import Derived.Test.YtmnhdjjedppkmaaDoorAwake2
import Derived.Test.YtmnhdjjedppkmaaDoorLaid
import Derived.Test.YtmnhdjjedppkmaaDoorPad
import Derived.Test.YtmnhdjjedppkmaaDoorEq
import Derived.Test.YtmnhdjjedppkmaaDoorSha9
namespace Go.Proofs.YtmnhdjjedppkmaaDoor.shaWords
open Go.ChangeShapes Go.WideShapes Go.ChangeAt Go.RowKit
open Go.ChangeMaps (open_string shut_string)
open Go.Proofs.YtmnhdjjedppkmaaDoor.Mem Go.Proofs.YtmnhdjjedppkmaaDoor.Help Go.Proofs.YtmnhdjjedppkmaaDoor.Sum Go.Proofs.YtmnhdjjedppkmaaDoor.Sha
set_option linter.unusedVariables false

theorem own : ownKnob Tryd.prog.godebug = none := by kernel_rfl
theorem laidOut : laidOutB Tryd.prog = true := by kernel_rfl

/-- what a slice that came in leads to -/
def IsRow (k : IntKind) (w : World) (a : Option Addr) (len cap : Nat) (zs : List Int) : Prop :=
  (a = none ∧ len = 0 ∧ cap = 0 ∧ zs = []) ∨
  ∃ x, a = some x ∧ len ≤ cap ∧ cap ≤ maxLen ∧ zs.length = cap ∧ (∀ i, i < zs.length → w.cell? (x.add i) = some (.int k (zs.getD i 0))) ∧ ∀ n ∈ zs, (Lit.int k n).wf = true

def laidList : List (String × DataW Unit) := [("domino/sha.start", Rows.laid_domino_sha_start), ("domino/sha.words", Rows.laid_domino_sha_words)]

set_option maxRecDepth 100000 in
set_option maxHeartbeats 1000000 in
theorem start (N : Int) (w : World) (hT : Tab w 0 Sum.H0 ∧ Tab w 1 Sum.K) :
    Calls Tryd.prog 4 #[.int .i64 N] w fun e w' => e = .returned (.bool true) ∧ Below w.heap.size w w' := by
  obtain ⟨n, hn⟩ : ∃ n : Nat, (n : Int) = max (min N 1099511627776) 0 := ⟨(max (min N 1099511627776) 0).toNat, by omega⟩
  have hn1 : n ≤ 1099511627776 := by omega
  obtain ⟨L, hL⟩ : ∃ L, (padI n).length = L := ⟨_, rfl⟩
  have l9 : (9 : Int) ≤ (L : Int) := by rw [← hL, pad_length]; omega
  have l72 : (L : Int) ≤ 72 := by rw [← hL, pad_length]; omega
  have HM := Lib.hid (show (n + L) % 64 = 0 by rw [← hL]; exact pad_whole n)
  have HL := Lib.hid hL
  have HN := Lib.hid hn
  have hu := fun w => eql_arr (P := Tryd.prog) w 33 32 64 .u32 Sum.K Tryd.underlying33 Tryd.underlying32 rfl Sum.K_length
  clear hL
  rcases (by omega : (1099511627776 < N ∧ n = 1099511627776) ∨ (N ≤ 0 ∧ n = 0) ∨ (0 < N ∧ N ≤ 1099511627776 ∧ N = n)) with ⟨h, hx⟩ | ⟨h, hx⟩ | ⟨h, hx, rfl⟩
  all_goals
    have hy : True := trivial
    try have hz : ¬ N ≤ 0 := by omega
    try have hz : ¬ (n : Int) ≤ 0 := by omega
    try have hgt : ¬ 1099511627776 < N := by omega
    try have hgt : ¬ 1099511627776 < (n : Int) := by omega
    clear hn
    go_enter Tryd.func4, Tryd.ntmps4
    go_wp2_with fail
    refine (pad_any _ n _ (by omega) (by omega)).mono ?_
    rintro e w1 ⟨rfl, hr1, hb1⟩
    have HT := hT
    have s1 := hb1.size
    have i1 := hr1.ints (n := L) (by rw [HL.out]; exact Nat.le_refl _)
    have rl := hr1.lt
    rw [List.take_of_length_le (by rw [HL.out]; exact Nat.le_refl _)] at i1
    rw [HL.out]
    clear hr1
    have I1 := Lib.hid i1
    clear i1
    go_wp2_with fail
    refine (awake2_any _ (HT.1.below hb1 HT.1.lt) (HT.2.below hb1 HT.2.lt)).mono ?_
    rintro e w2 ⟨rfl, hb2⟩
    have b2 := hb1.trans (hb2.mono s1)
    go_wp2_with fail
    refine (words_any _ (HT.2.below b2 HT.2.lt)).mono ?_
    rintro e w3 ⟨rfl, hb3⟩
    have b3 := b2.trans (hb3.mono b2.size)
    go_wp2_with fail
    refine (rwords_any _).mono ?_
    rintro e w4 ⟨rfl, hb4⟩
    have b4 := b3.trans (hb4.mono b3.size)
    go_wp2_with fail
    refine (rpad_any _ n _ (by omega) (by omega)).mono ?_
    rintro e w5 ⟨v, rfl, hown, hb5⟩
    have b5 := b4.trans (hb5.mono b4.size)
    obtain ⟨A5, c5, rfl, _, _, i5⟩ := hown.form
    rw [HL.out] at i5 ⊢
    have k1 := (((I1.out.below hb2).below (hb3.mono hb2.size)).below (hb4.mono (hb2.trans (hb3.mono hb2.size)).size)).below (hb5.mono ((hb2.trans (hb3.mono hb2.size)).trans (hb4.mono (hb2.trans (hb3.mono hb2.size)).size)).size)
    clear hown
    go_wp2_with fail
    refine (bytes_any _ _ _ _ _ _ _ _ _ _ _ k1 i5).mono ?_
    rintro e w6 ⟨rfl, rfl⟩
    clear k1 i5
    have d9 : decide ((9 : Int) ≤ (L : Int)) = true := by simp; omega
    have d72 : decide ((L : Int) ≤ 72) = true := by simp; omega
    have em : (((n : Int) + (L : Int)) % 64 == 0) = true := beq_iff_eq.2 (by have := HM.out; omega)
    try have em' : ((L : Int) % 64 == 0) = true := beq_iff_eq.2 (by have := HM.out; omega)
    go_wp2_with fail
    go_ret
    exact ⟨rfl, b5⟩

theorem walk (a0 : Int) (w : World) (w0 : (Lit.int .i64 a0).wf = true) (hL : laidMetH Tryd.prog laidList w) :
    Calls Tryd.prog 4 #[.int .i64 a0] w fun e w' => e = .returned (.bool true) ∧ Below w.heap.size w w' := by
  exact start a0 w (sha_of_laid hL)

set_option maxRecDepth 100000 in
theorem door_met (os : Os) (args : Array Value) : laidMetH Tryd.prog laidList ((World.doorLaid Tryd.prog 400 os).forCall (fun _ _ => 0) ⟨#[], args, []⟩).memory :=
  laidMetH_of_parts3 (fuel := 8) (laidMet_of_run' 8 (by kernel_rfl) (by kernel_rfl)) (by kernel_rfl) (by kernel_rfl)

set_option maxRecDepth 100000 in
theorem lifted (os : Os) (started : os.Started) (H : Type) (enc : TypeId × Value → H) :
    ReturnsInHanded {} Tryd.checked os 4 .any (fun w args => (Rows.shaWordsSpec.pre enc Tryd.prog Tryd.f4 [] false w args ∧ laidMetH Tryd.prog laidList w) ∧ sizedMet enc Tryd.prog Tryd.f4 (OpenSpec.ofChange Rows.shaWordsSpec) false w args)
      (Rows.shaWordsSpec.post enc Tryd.prog Tryd.f4 false true false false) := by
  refine returnsInHanded_of_change_and (C := Tryd.checked) (X := fun w _ => laidMetH Tryd.prog laidList w) (fun _ _ _ hh h => h.of_heap hh) own started (by kernel_rfl) Tryd.func4
    (ChangeSpec.witness_shaped (enc := enc) (C := Tryd.checked) (os := os) (X := fun w _ => laidMetH Tryd.prog laidList w) false (World.doorLaid Tryd.prog 400 os) #[.int .i64 0] 8 rfl (World.shaped_of_RefB (by kernel_rfl) (by kernel_rfl)) (by kernel_rfl) (by kernel_rfl) (by kernel_rfl) (door_met os _)) ?_
  intro W base args ds gs before hval0 hW _ _ hL _
  have hval : ∀ (j : Nat) t v, Tryd.f4.params[j]? = some t → args[j]? = some v → Value.okWide Tryd.prog W .any base t v := hval0
  have hW' := hW
  obtain ⟨p, q, hA0, hV, rfl, hfz, hnd⟩ := hW
  have hA : DataW.TrodAll enc Tryd.prog W 0 (fun _ => true) true Tryd.f4.params.toList args.toList ds p := hA0
  rw [Tryd.params4] at hA hval
  obtain ⟨v0, vs0, d0, ds0, p0, q0, hargs, rfl, rfl, h0, r0⟩ := trodAll_cons hA
  obtain ⟨rfl, rfl, rfl⟩ := trodAll_nil r0
  obtain rfl : args = #[v0] := by cases args; simp_all
  obtain ⟨rfl, rfl⟩ := trodVars_none hV
  obtain ⟨a0, rfl, rfl, rfl, w0⟩ := open_int Tryd.underlying3 (hval 0 3 v0 rfl rfl) h0
  clear hA0 hval0
  refine (walk a0 W w0 hL).mono fun e W' ⟨he, bel⟩ => ?_
  subst he
  exact ⟨_, rfl, _, _, _, [], _, [], hW', trodAll_mk1 (shut_bool Tryd.underlying4 _), (trodAll_cons_mk (shut_int Tryd.underlying3 w0) trodAll_mk0), rfl, bel.frame _, fun h => by cases h⟩

theorem over : Rows.shaWordsRow.holds Tryd.pinned (OpenSpec.ofChange Rows.shaWordsSpec) :=
  OpenClaim.holds_of_wide 4 Tryd.f4 rfl rfl rfl rfl rfl rfl rfl ⟨rfl, rfl, rfl, rfl, rfl⟩ rfl rfl rfl rfl rfl (by kernel_rfl) Tryd.func4 (by kernel_rfl)
    (of_decide_eq_true (by kernel_rfl)) (by unfold Func.isWrapper; first | (rw [if_pos (by decide +kernel)]; kernel_rfl) | (rw [if_neg (by decide +kernel)]; exact ⟨rfl, rfl⟩))
    (fun os started H enc _ => lifted os started H enc)

/-- the statement -/
theorem proved : Rows.ShaWordsCardSaid :=
  Claim7.holds_tied_plain_at .later [] [.data, .data] true (true, "ae717fbe715afea8b62763525f48aea5a68bc947a94ed7c63125d97ac72252c3") false
    over (fun _ h => by cases h) (by kernel_rfl) (fun _ h => by cases h) shaWords_row_tie rfl ⟨rfl, rfl⟩ (by kernel_rfl) rfl
    (fun f fn hf hfn => by
      obtain rfl : f = 4 := Option.some.inj ((show Tryd.prog.funcNamed "domino/dominolaw02.ShaWords" = some 4 by kernel_rfl).symm.trans hf) |>.symm
      obtain rfl : fn = Tryd.f4 := (Option.some.inj (Tryd.func4.symm.trans hfn)).symm
      exact ⟨by kernel_rfl, fun j t ht => by
        rw [Tryd.params4] at ht
        have hm : t ∈ [3] := by simpa using Array.mem_of_getElem? ht
        have hall : ([3].all fun u => !Tryd.prog.wantsStandIn u) = true := by kernel_rfl
        exact (show Tryd.prog.wantsStandIn t = false by simpa using List.all_eq_true.1 hall t hm)⟩)
    (by kernel_rfl)
#print axioms proved
end Go.Proofs.YtmnhdjjedppkmaaDoor.shaWords
