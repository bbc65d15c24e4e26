/-
  The law ShaSums of package dominolaw02 returns true for every list of texts: the sum of any bytes, in any parts, is the document's own; what is handed in stays. The tables of package sha hold what the program's text lays.
-/
import Derived.Test.YtaggpecikiknkaaDoorRows
import Derived.Test.YtaggpecikiknkaaDoorCards
import Derived.Test.YtaggpecikiknkaaDoorTie
import Derived.SevenTiedAt
import Derived.WalkKit
import Derived.ProofKit
import Derived.OpenShut
import Derived.ShutString
import Derived.ChangeOld
import Derived.Below
import Derived.LaidMore
import Derived.Stop.Joined
import Derived.Test.YtaggpecikiknkaaDoorAwake2
import Derived.Test.YtaggpecikiknkaaDoorLaid
import Derived.Test.YtaggpecikiknkaaDoorEq
import Derived.Test.YtaggpecikiknkaaDoorShaR
import Derived.Test.YtaggpecikiknkaaDoorKept
import Derived.Test.YtaggpecikiknkaaDoorSumB
namespace Go.Proofs.YtaggpecikiknkaaDoor.shaSums
open Go.ChangeShapes Go.WideShapes Go.ChangeAt Go.RowKit
open Go.ChangeMaps (open_string shut_string)
open Go.Proofs.YtaggpecikiknkaaDoor.Mem Go.Proofs.YtaggpecikiknkaaDoor.Help Go.Proofs.YtaggpecikiknkaaDoor.Sum Go.Proofs.YtaggpecikiknkaaDoor.Sha
set_option linter.unusedVariables false

theorem own : ownKnob Tryd.prog.godebug = none := by kernel_rfl
theorem laidOut : laidOutB Tryd.prog = true := by kernel_rfl

/-- what a slice that came in leads to -/
def IsRow (k : IntKind) (w : World) (a : Option Addr) (len cap : Nat) (zs : List Int) : Prop :=
  (a = none ∧ len = 0 ∧ cap = 0 ∧ zs = []) ∨
  ∃ x, a = some x ∧ len ≤ cap ∧ cap ≤ maxLen ∧ zs.length = cap ∧ (∀ i, i < zs.length → w.cell? (x.add i) = some (.int k (zs.getD i 0))) ∧ ∀ n ∈ zs, (Lit.int k n).wf = true

def laidList : List (String × DataW Unit) := [("domino/sha.start", Rows.laid_domino_sha_start), ("domino/sha.words", Rows.laid_domino_sha_words)]

set_option maxRecDepth 100000 in
set_option maxHeartbeats 2000000 in
theorem start (A : Option Addr) (m c : Nat) (vs : List Value) (xss : List (List Int)) (w : World) (h : Vals w w.heap.size A m vs) (ht : Texts w w.heap.size vs xss)
    (hT : Tab w 0 Sum.H0 ∧ Tab w 1 Sum.K) :
    Calls Tryd.prog 3 #[.slice A m c] w fun e w' => e = .returned (.bool true) ∧ Below w.heap.size w w' := by
  by_cases hm : 20 < m
  · have hm' : (20 : Int) < (m : Int) := by omega
    go_enter Tryd.func3, Tryd.ntmps3
    go_wp2_with (go_at_call 9; refine (awake2_any _ hT.1 hT.2).mono ?_; rintro e w' ⟨rfl, hb⟩)
    go_ret
    exact ⟨rfl, hb⟩
  have hm1 : ¬ (20 : Int) < (m : Int) := by omega
  have HV := Lib.hid h.1
  have HX := Lib.hid ht.1
  have HB := Lib.hid ht.bs
  go_enter Tryd.func3, Tryd.ntmps3
  go_wp2_with fail
  go_loopw [3, 4] (fun v i wr => ∃ k : Nat, k ≤ m ∧ i = .int .i64 k ∧ Mem.Own wr w.heap.size 5 .u8 v (xss.take k).flatten ∧ (xss.take k).flatten.length ≤ 1000 * k ∧ Below w.heap.size w wr) (fun _ i _ => m - (intOf i).toNat)
  case atStart => exact ⟨0, by omega, rfl, Mem.Own.nil _ _ _ _, by simp, Below.refl _ _⟩
  case round =>
    obtain ⟨k, hk, rfl, hown, hlen, hbw⟩ := hrel
    by_cases hlt : k < m
    · obtain ⟨b, off, rfl, hb, hc⟩ := (h.below hbw).at_ hlt
      obtain ⟨A1, n1, c1, e1, hc1, hm1', hi1⟩ := (ht.below hbw).2 k (by rw [HV.out]; exact hlt)
      rw [e1] at hc
      have hlt' : (k : Int) < (m : Int) := by omega
      have hk0 : (0 : Int) ≤ (k : Int) := by omega
      have HN1 := Lib.hid hi1.1
      have HS := Lib.hid (flat_succ xss (k := k) (by have := HV.out; have := HX.out; omega))
      have hs := hbw.size
      clear e1
      by_cases hbig : 1000 < n1
      · have hbig' : (1000 : Int) < (n1 : Int) := by omega
        go_wp2_with (go_at_call 9; refine (awake2_any _ (hT.1.below hbw hT.1.lt) (hT.2.below hbw hT.2.lt)).mono ?_; rintro e w' ⟨rfl, hb'⟩)
        go_ret
        exact ⟨rfl, hbw.trans (hb'.mono hs)⟩
      · have hbig' : ¬ (1000 : Int) < (n1 : Int) := by omega
        go_wp2_with (at_builtin; refine wpList_append_ints _ rfl _ _ 24 rfl w.heap.size 5 .u8 1 Tryd.underlying24 info_u8 _ _ rfl hown w.heap.size A1 n1 c1 (xss.getD k []) rfl hi1 (by omega) (by omega) hs ?_; intro v2 w2 hown2 hg2 hat2)
        have hb2 : Below w.heap.size w w2 := hbw.grown hg2 hs (fun q hq => by have := (hown.2.lt q hq).1; omega)
        go_roundw
        case rel => exact ⟨k + 1, by omega, by go_num, by rw [HS.out]; exact hown2, by rw [HS.out, List.length_append, HN1.out]; omega, hb2⟩
        case measure => simp [intOf]; omega
    · have hkm : k = m := by omega
      subst hkm
      have eall : (xss.take k).flatten = xss.flatten := by rw [List.take_of_length_le (by have := HV.out; have := HX.out; omega)]
      rw [eall] at hown hlen
      clear eall
      obtain ⟨all, hall⟩ : ∃ all, xss.flatten = all := ⟨_, rfl⟩
      have hbs : Bs all := hall ▸ ht.bs
      rw [hall] at hown hlen
      have HA := Lib.hid hall
      clear hall
      obtain ⟨A3, c3, rfl, _, _, i3⟩ := hown.form
      obtain ⟨n, hn⟩ : ∃ n, all.length = n := ⟨_, rfl⟩
      rw [hn] at i3 hlen ⊢
      have HN := Lib.hid hn
      clear hn hown
      have hu := fun w => eql_arr (P := Tryd.prog) w 26 5 32 .u8 (Sum.sha all) Tryd.underlying26 Tryd.underlying5 rfl (out_length _)
      have s0 := hbw.size
      go_wp2_with fail
      refine (own_any _ A3 n c3 all 71 _ i3 (Nat.le_refl _) (by omega) rfl).mono ?_
      rintro e w1 ⟨g1, rfl, hg1, r1, c1⟩
      have b1 := hbw.trans (c1.mono s0)
      have l1 := r1.lt
      go_wp2_with fail
      refine (awake2_any _ (hT.1.below b1 hT.1.lt) (hT.2.below b1 hT.2.lt)).mono ?_
      rintro e w2 ⟨rfl, hb2⟩
      have c2 := c1.trans (hb2.mono c1.size)
      have b2 := hbw.trans (c2.mono s0)
      have r2 := r1.below hb2 l1
      clear hb2 b1 c1 r1 l1
      have l2 := r2.lt
      go_wp2_with fail
      refine (sum_any _ _ _ _ _ xss _ (h.below b2) (ht.below b2) b2.size (by omega) (by rw [HA.out, HN.out]; omega) (by rw [HA.out]; exact hbs) (hT.1.below b2 hT.1.lt) (hT.2.below b2 hT.2.lt)).mono ?_
      rw [HA.out]
      rintro e w3 ⟨rfl, hb3⟩
      have c3' := c2.trans (hb3.mono c2.size)
      have b3 := hbw.trans (c3'.mono s0)
      have r3 := r2.below hb3 l2
      clear hb3 b2 c2 r2 l2
      have l3 := r3.lt
      go_wp2_with fail
      refine (rsum_any _ _ n _ all _ (i3.below c3') c3'.size (by omega)).mono ?_
      rintro e w4 ⟨rfl, hb4⟩
      have c4 := c3'.trans (hb4.mono c3'.size)
      have b4 := hbw.trans (c4.mono s0)
      have r4 := r3.below hb4 l3
      clear hb4 b3 c3' r3 l3
      have l4 := r4.lt
      go_wp2_with fail
      refine (sum_one _ _ _ n _ (n + 3) all (rowInts r4 HN.out) (Nat.le_refl _) (by omega) (by unfold maxLen; omega) (by omega) (hT.1.below b4 hT.1.lt) (hT.2.below b4 hT.2.lt)).mono ?_
      rintro e w5 ⟨rfl, hb5⟩
      have c5 := c4.trans (hb5.mono c4.size)
      have b5 := hbw.trans (c5.mono s0)
      have r5 := r4.below hb5 l4
      clear hb5 b4 c4 r4 l4
      have l5 := r5.lt
      go_wp2_with fail
      refine (rsum_any _ _ n _ all _ (i3.below c5) c5.size (by omega)).mono ?_
      rintro e w6 ⟨rfl, hb6⟩
      have c6 := c5.trans (hb6.mono c5.size)
      have b6 := hbw.trans (c6.mono s0)
      have r6 := r5.below hb6 l5
      clear hb6 b5 c5 r5 l5
      go_wp2_with fail
      refine (kept_any _ A3 n c3 g1 all 71 _ (i3.below c6) (by omega) r6).mono ?_
      rintro e w7 ⟨rfl, st7⟩
      have b7 := b6.trans (st7.below _)
      go_wp2_with fail
      go_ret
      exact ⟨rfl, b7⟩

theorem walk (A0 : Option Addr) (m0 c0 : Nat) (vs0 : List Value) (xss0 : List (List Int)) (w : World) (hv0 : Vals w w.heap.size A0 m0 vs0) (ht0 : Texts w w.heap.size vs0 xss0) (hL : laidMetH Tryd.prog laidList w) :
    Calls Tryd.prog 3 #[.slice A0 m0 c0] w fun e w' => e = .returned (.bool true) ∧ Below w.heap.size w w' := by
  exact start A0 m0 c0 vs0 xss0 w hv0 ht0 (sha_of_laid hL)

set_option maxRecDepth 100000 in
theorem door_met (os : Os) (args : Array Value) : laidMetH Tryd.prog laidList ((World.doorLaid Tryd.prog 400 os).forCall (fun _ _ => 0) ⟨#[], args, []⟩).memory :=
  laidMetH_of_parts3 (fuel := 8) (laidMet_of_run' 8 (by kernel_rfl) (by kernel_rfl)) (by kernel_rfl) (by kernel_rfl)

set_option maxRecDepth 100000 in
theorem lifted (os : Os) (started : os.Started) (H : Type) (enc : TypeId × Value → H) :
    ReturnsInHanded {} Tryd.checked os 3 .any (fun w args => (Rows.shaSumsSpec.pre enc Tryd.prog Tryd.f3 [] false w args ∧ laidMetH Tryd.prog laidList w) ∧ sizedMet enc Tryd.prog Tryd.f3 (OpenSpec.ofChange Rows.shaSumsSpec) false w args)
      (Rows.shaSumsSpec.post enc Tryd.prog Tryd.f3 false true false false) := by
  refine returnsInHanded_of_change_and (C := Tryd.checked) (X := fun w _ => laidMetH Tryd.prog laidList w) (fun _ _ _ hh h => h.of_heap hh) own started (by kernel_rfl) Tryd.func3
    (ChangeSpec.witness_shaped (enc := enc) (C := Tryd.checked) (os := os) (X := fun w _ => laidMetH Tryd.prog laidList w) false (World.doorLaid Tryd.prog 400 os) #[.slice none 0 0] 8 rfl (World.shaped_of_RefB (by kernel_rfl) (by kernel_rfl)) (by kernel_rfl) (by kernel_rfl) (by kernel_rfl) (door_met os _)) ?_
  intro W base args ds gs before hval0 hW _ _ hL _
  have hval : ∀ (j : Nat) t v, Tryd.f3.params[j]? = some t → args[j]? = some v → Value.okWide Tryd.prog W .any base t v := hval0
  have hW' := hW
  obtain ⟨p, q, hA0, hV, rfl, hfz, hnd⟩ := hW
  have hA : DataW.TrodAll enc Tryd.prog W 0 (fun _ => true) true Tryd.f3.params.toList args.toList ds p := hA0
  rw [Tryd.params3] at hA hval
  obtain ⟨v0, vs0, d0, ds0, p0, q0, hargs, rfl, rfl, h0, r0⟩ := trodAll_cons hA
  obtain ⟨rfl, rfl, rfl⟩ := trodAll_nil r0
  obtain rfl : args = #[v0] := by cases args; simp_all
  obtain ⟨rfl, rfl⟩ := trodVars_none hV
  obtain ⟨A0, m0, c0, rfl⟩ := okWide_slice Tryd.underlying22 (hval 0 22 v0 rfl rfl)
  have k0 := h0
  have lt0 : ∀ x ∈ p0, x.block < W.heap.size := by obtain ⟨m, hm⟩ := k0; exact DataW.trod_lt m _ _ _ hm
  obtain ⟨vs0, xss0, hv0, ht0⟩ := open_texts Tryd.underlying22 Tryd.underlying24 Tryd.underlying5 (by kernel_rfl) (by kernel_rfl) h0
  clear hA0 hval0
  refine (walk A0 m0 c0 vs0 xss0 W hv0 ht0 hL).mono fun e W' ⟨he, bel⟩ => ?_
  subst he
  exact ⟨_, rfl, _, _, _, [], _, [], hW', trodAll_mk1 (shut_bool Tryd.underlying4 _), (trodAll_cons_mk (Below.trod laidOut (by kernel_rfl) (of_decide_eq_true (by kernel_rfl)) k0 bel lt0) trodAll_mk0), rfl, bel.frame _, fun h => by cases h⟩

theorem over : Rows.shaSumsRow.holds Tryd.pinned (OpenSpec.ofChange Rows.shaSumsSpec) :=
  OpenClaim.holds_of_wide 3 Tryd.f3 rfl rfl rfl rfl rfl rfl rfl ⟨rfl, rfl, rfl, rfl, rfl⟩ rfl rfl rfl rfl rfl (by kernel_rfl) Tryd.func3 (by kernel_rfl)
    (of_decide_eq_true (by kernel_rfl)) (by unfold Func.isWrapper; first | (rw [if_pos (by decide +kernel)]; kernel_rfl) | (rw [if_neg (by decide +kernel)]; exact ⟨rfl, rfl⟩))
    (fun os started H enc _ => lifted os started H enc)

/-- the statement -/
theorem proved : Rows.ShaSumsCardSaid :=
  Claim7.holds_tied_plain_at .later [] [.data, .data] true (true, "74715a686186f48c3dd40144d148d95e47866ac8009af2670855dcda67169850") false
    over (fun _ h => by cases h) (by kernel_rfl) (fun _ h => by cases h) shaSums_row_tie rfl ⟨rfl, rfl⟩ (by kernel_rfl) rfl
    (fun f fn hf hfn => by
      obtain rfl : f = 3 := Option.some.inj ((show Tryd.prog.funcNamed "domino/dominolaw02.ShaSums" = some 3 by kernel_rfl).symm.trans hf) |>.symm
      obtain rfl : fn = Tryd.f3 := (Option.some.inj (Tryd.func3.symm.trans hfn)).symm
      exact ⟨by kernel_rfl, fun j t ht => by
        rw [Tryd.params3] at ht
        have hm : t ∈ [22] := by simpa using Array.mem_of_getElem? ht
        have hall : ([22].all fun u => !Tryd.prog.wantsStandIn u) = true := by kernel_rfl
        exact (show Tryd.prog.wantsStandIn t = false by simpa using List.all_eq_true.1 hall t hm)⟩)
    (by kernel_rfl)
#print axioms proved
end Go.Proofs.YtaggpecikiknkaaDoor.shaSums
