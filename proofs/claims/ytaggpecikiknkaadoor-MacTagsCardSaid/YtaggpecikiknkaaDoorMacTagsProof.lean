/-
  The law MacTags of package dominolaw03 returns true for every key and every list of texts: the tag of any bytes, in any parts, with any key, is the document's own; what is handed in stays. The tables of package sha hold what the program's text lays.
-/
import Derived.Test.YtaggpecikiknkaaDoorRows
import Derived.Test.YtaggpecikiknkaaDoorCards
import Derived.Test.YtaggpecikiknkaaDoorTie
import Derived.SevenTiedAt
import Derived.WalkKit
import Derived.ProofKit
import Derived.OpenShut
import Derived.ShutString
import Derived.ChangeOld
import Derived.Below
import Derived.LaidMore
import Derived.Stop.Joined
import Derived.Test.YtaggpecikiknkaaDoorMacB
import Derived.Test.YtaggpecikiknkaaDoorMacR
import Derived.Test.YtaggpecikiknkaaDoorLaid
import Derived.Test.YtaggpecikiknkaaDoorEq
import Derived.Test.YtaggpecikiknkaaDoorKept
namespace Go.Proofs.YtaggpecikiknkaaDoor.macTags
open Go.ChangeShapes Go.WideShapes Go.ChangeAt Go.RowKit
open Go.ChangeMaps (open_string shut_string)
open Go.Proofs.YtaggpecikiknkaaDoor.Mem Go.Proofs.YtaggpecikiknkaaDoor.Help Go.Proofs.YtaggpecikiknkaaDoor.Sum Go.Proofs.YtaggpecikiknkaaDoor.Sha Go.Proofs.YtaggpecikiknkaaDoor.Mac
set_option linter.unusedVariables false

theorem own : ownKnob Tryd.prog.godebug = none := by kernel_rfl
theorem laidOut : laidOutB Tryd.prog = true := by kernel_rfl

/-- what a slice that came in leads to -/
def IsRow (k : IntKind) (w : World) (a : Option Addr) (len cap : Nat) (zs : List Int) : Prop :=
  (a = none ∧ len = 0 ∧ cap = 0 ∧ zs = []) ∨
  ∃ x, a = some x ∧ len ≤ cap ∧ cap ≤ maxLen ∧ zs.length = cap ∧ (∀ i, i < zs.length → w.cell? (x.add i) = some (.int k (zs.getD i 0))) ∧ ∀ n ∈ zs, (Lit.int k n).wf = true

def laidList : List (String × DataW Unit) := [("domino/sha.start", Rows.laid_domino_sha_start), ("domino/sha.words", Rows.laid_domino_sha_words)]

set_option maxRecDepth 100000 in
set_option maxHeartbeats 2000000 in
theorem start (AK : Option Addr) (n ck : Nat) (zs : List Int) (A : Option Addr) (m c : Nat) (vs : List Value) (xss : List (List Int)) (w : World) (hk : Ints w .u8 w.heap.size AK n zs) (h : Vals w w.heap.size A m vs) (ht : Texts w w.heap.size vs xss)
    (hT : Tab w 0 Sum.H0 ∧ Tab w 1 Sum.K) :
    Calls Tryd.prog 6 #[.slice AK n ck, .slice A m c] w fun e w' => e = .returned (.bool true) ∧ Below w.heap.size w w' := by
  by_cases hbig : 1000 < n ∨ 20 < m
  · rcases (by omega : 1000 < n ∨ (¬ 1000 < n ∧ 20 < m)) with hb | ⟨hb, hb'⟩
    · have q1 : (1000 : Int) < (n : Int) := by omega
      go_enter Tryd.func6, Tryd.ntmps6
      go_wp2_with (go_at_call 15; refine (awake3_any _ hT.1 hT.2).mono ?_; rintro e w' ⟨rfl, hb⟩)
      go_ret
      exact ⟨rfl, hb⟩
    · have q1 : ¬ (1000 : Int) < (n : Int) := by omega
      have q2 : (20 : Int) < (m : Int) := by omega
      go_enter Tryd.func6, Tryd.ntmps6
      go_wp2_with (go_at_call 15; refine (awake3_any _ hT.1 hT.2).mono ?_; rintro e w' ⟨rfl, hb⟩)
      go_ret
      exact ⟨rfl, hb⟩
  have hn1 : ¬ (1000 : Int) < (n : Int) := by omega
  have hm1 : ¬ (20 : Int) < (m : Int) := by omega
  have HV := Lib.hid h.1
  have HX := Lib.hid ht.1
  have HK := Lib.hid hk.1
  go_enter Tryd.func6, Tryd.ntmps6
  go_wp2_with fail
  go_loopw [5, 6] (fun v i wr => ∃ k : Nat, k ≤ m ∧ i = .int .i64 k ∧ Mem.Own wr w.heap.size 5 .u8 v (xss.take k).flatten ∧ (xss.take k).flatten.length ≤ 1000 * k ∧ Below w.heap.size w wr) (fun _ i _ => m - (intOf i).toNat)
  case atStart => exact ⟨0, by omega, rfl, Mem.Own.nil _ _ _ _, by simp, Below.refl _ _⟩
  case round =>
    obtain ⟨k, hkm, rfl, hown, hlen, hbw⟩ := hrel
    by_cases hlt : k < m
    · obtain ⟨b, off, rfl, hb, hc⟩ := (h.below hbw).at_ hlt
      obtain ⟨A1, n1, c1, e1, hc1, hm1', hi1⟩ := (ht.below hbw).2 k (by rw [HV.out]; exact hlt)
      rw [e1] at hc
      have hlt' : (k : Int) < (m : Int) := by omega
      have hk0 : (0 : Int) ≤ (k : Int) := by omega
      have HN1 := Lib.hid hi1.1
      have HS := Lib.hid (flat_succ xss (k := k) (by have := HV.out; have := HX.out; omega))
      have hs := hbw.size
      clear e1
      by_cases hbig : 1000 < n1
      · have hbig' : (1000 : Int) < (n1 : Int) := by omega
        go_wp2_with (go_at_call 15; refine (awake3_any _ (hT.1.below hbw hT.1.lt) (hT.2.below hbw hT.2.lt)).mono ?_; rintro e w' ⟨rfl, hb'⟩)
        go_ret
        exact ⟨rfl, hbw.trans (hb'.mono hs)⟩
      · have hbig' : ¬ (1000 : Int) < (n1 : Int) := by omega
        go_wp2_with (at_builtin; refine wpList_append_ints _ rfl _ _ 24 rfl w.heap.size 5 .u8 1 Tryd.underlying24 info_u8 _ _ rfl hown w.heap.size A1 n1 c1 (xss.getD k []) rfl hi1 (by omega) (by omega) hs ?_; intro v2 w2 hown2 hg2 hat2)
        have hb2 : Below w.heap.size w w2 := hbw.grown hg2 hs (fun q hq => by have := (hown.2.lt q hq).1; omega)
        go_roundw
        case rel => exact ⟨k + 1, by omega, by go_num, by rw [HS.out]; exact hown2, by rw [HS.out, List.length_append, HN1.out]; omega, hb2⟩
        case measure => simp [intOf]; omega
    · have hkm : k = m := by omega
      subst hkm
      have eall : (xss.take k).flatten = xss.flatten := by rw [List.take_of_length_le (by have := HV.out; have := HX.out; omega)]
      rw [eall] at hown hlen
      clear eall
      obtain ⟨all, hall⟩ : ∃ all, xss.flatten = all := ⟨_, rfl⟩
      rw [hall] at hown hlen
      have HA := Lib.hid hall
      clear hall
      obtain ⟨A3, c3, rfl, _, _, i3⟩ := hown.form
      obtain ⟨q, hq⟩ : ∃ q, all.length = q := ⟨_, rfl⟩
      rw [hq] at i3 hlen ⊢
      have HN := Lib.hid hq
      clear hq hown
      have hu := fun W => eql_arr (P := Tryd.prog) W 26 5 32 .u8 (tag zs all) Tryd.underlying26 Tryd.underlying5 rfl (tag_length _ _)
      have s0 := hbw.size
      go_wp2_with fail
      refine (own_any _ AK n ck zs 71 _ (hk.below hbw) s0 (by omega) rfl).mono ?_
      rintro e w1 ⟨g1, rfl, hg1, r1, c1⟩
      have b1 := hbw.trans (c1.mono s0)
      have l1 := r1.lt
      go_wp2_with fail
      refine (awake3_any _ (hT.1.below b1 hT.1.lt) (hT.2.below b1 hT.2.lt)).mono ?_
      rintro e w2 ⟨rfl, hb2⟩
      have c2 := c1.trans (hb2.mono c1.size)
      have b2 := hbw.trans (c2.mono s0)
      have r2 := r1.below hb2 l1
      clear hb2 b1 c1 r1 l1
      have l2 := r2.lt
      go_wp2_with fail
      refine (tag_any _ _ _ _ n (n + 3) _ _ zs _ xss _ (rowInts r2 HK.out) (by omega) (by unfold maxLen; omega) (by omega) (h.below b2) (ht.below b2) (Nat.le_refl _) b2.size (by omega) (by rw [HA.out, HN.out]; omega) (hT.1.below b2 hT.1.lt) (hT.2.below b2 hT.2.lt)).mono ?_
      rw [HA.out]
      rintro e w3 ⟨rfl, hb3⟩
      have c3' := c2.trans (hb3.mono c2.size)
      have b3 := hbw.trans (c3'.mono s0)
      have r3 := r2.below hb3 l2
      clear hb3 b2 c2 r2 l2
      have l3 := r3.lt
      go_wp2_with fail
      refine (rtag_any _ _ AK A3 n ck q c3 zs all _ (hk.below b3) b3.size (by omega) (i3.below c3') c3'.size (by omega)).mono ?_
      rintro e w4 ⟨rfl, hb4⟩
      have c4 := c3'.trans (hb4.mono c3'.size)
      have b4 := hbw.trans (c4.mono s0)
      have r4 := r3.below hb4 l3
      clear hb4 b3 c3' r3 l3
      go_wp2_with fail
      refine (kept_any _ AK n ck g1 zs 71 _ (hk.below b4) (by omega) r4).mono ?_
      rintro e w7 ⟨rfl, st7⟩
      have b7 := b4.trans (st7.below _)
      go_wp2_with fail
      go_ret
      exact ⟨rfl, b7⟩

theorem walk (a0 : Option Addr) (len0 cap0 : Nat) (z0 : List Int) (A1 : Option Addr) (m1 c1 : Nat) (vs1 : List Value) (xss1 : List (List Int)) (w : World) (w0 : IsRow .u8 w a0 len0 cap0 z0) (hv1 : Vals w w.heap.size A1 m1 vs1) (ht1 : Texts w w.heap.size vs1 xss1) (hL : laidMetH Tryd.prog laidList w) :
    Calls Tryd.prog 6 #[.slice a0 len0 cap0, .slice A1 m1 c1] w fun e w' => e = .returned (.bool true) ∧ Below w.heap.size w w' := by
  obtain ⟨hk, hl, hm⟩ := ints_of_row w0
  exact start a0 len0 cap0 _ A1 m1 c1 vs1 xss1 w hk hv1 ht1 (sha_of_laid hL)

set_option maxRecDepth 100000 in
theorem door_met (os : Os) (args : Array Value) : laidMetH Tryd.prog laidList ((World.doorLaid Tryd.prog 400 os).forCall (fun _ _ => 0) ⟨#[], args, []⟩).memory :=
  laidMetH_of_parts3 (fuel := 8) (laidMet_of_run' 8 (by kernel_rfl) (by kernel_rfl)) (by kernel_rfl) (by kernel_rfl)

set_option maxRecDepth 100000 in
theorem lifted (os : Os) (started : os.Started) (H : Type) (enc : TypeId × Value → H) :
    ReturnsInHanded {} Tryd.checked os 6 .any (fun w args => (Rows.macTagsSpec.pre enc Tryd.prog Tryd.f6 [] false w args ∧ laidMetH Tryd.prog laidList w) ∧ sizedMet enc Tryd.prog Tryd.f6 (OpenSpec.ofChange Rows.macTagsSpec) false w args)
      (Rows.macTagsSpec.post enc Tryd.prog Tryd.f6 false true false false) := by
  refine returnsInHanded_of_change_and (C := Tryd.checked) (X := fun w _ => laidMetH Tryd.prog laidList w) (fun _ _ _ hh h => h.of_heap hh) own started (by kernel_rfl) Tryd.func6
    (ChangeSpec.witness_shaped (enc := enc) (C := Tryd.checked) (os := os) (X := fun w _ => laidMetH Tryd.prog laidList w) false (World.doorLaid Tryd.prog 400 os) #[.slice none 0 0, .slice none 0 0] 8 rfl (World.shaped_of_RefB (by kernel_rfl) (by kernel_rfl)) (by kernel_rfl) (by kernel_rfl) (by kernel_rfl) (door_met os _)) ?_
  intro W base args ds gs before hval0 hW _ _ hL _
  have hval : ∀ (j : Nat) t v, Tryd.f6.params[j]? = some t → args[j]? = some v → Value.okWide Tryd.prog W .any base t v := hval0
  have hW' := hW
  obtain ⟨p, q, hA0, hV, rfl, hfz, hnd⟩ := hW
  have hA : DataW.TrodAll enc Tryd.prog W 0 (fun _ => true) true Tryd.f6.params.toList args.toList ds p := hA0
  rw [Tryd.params6] at hA hval
  obtain ⟨v0, vs0, d0, ds0, p0, q0, hargs, rfl, rfl, h0, r0⟩ := trodAll_cons hA
  obtain ⟨v1, vs1, d1, ds1, p1, q1, rfl, rfl, rfl, h1, r1⟩ := trodAll_cons r0
  obtain ⟨rfl, rfl, rfl⟩ := trodAll_nil r1
  obtain rfl : args = #[v0, v1] := by cases args; simp_all
  obtain ⟨rfl, rfl⟩ := trodVars_none hV
  obtain ⟨a0, len0, cap0, rfl⟩ := okWide_slice Tryd.underlying24 (hval 0 24 v0 rfl rfl)
  have k0 := h0
  have lt0 : ∀ x ∈ p0, x.block < W.heap.size := by obtain ⟨m, hm⟩ := k0; exact DataW.trod_lt m _ _ _ hm
  obtain ⟨z0, w0⟩ : ∃ zs, IsRow .u8 W a0 len0 cap0 zs := by
    obtain ⟨fuel, hf⟩ := h0
    rcases open_ints Tryd.underlying24 Tryd.underlying5 (by kernel_rfl) hf with ⟨hcs, _⟩ | ⟨x, l, c, zs, hcs, _, hl, hm, hz, _, hcell, hwz⟩
    · simp [Value.cells] at hcs
      obtain ⟨rfl, rfl, rfl⟩ := hcs
      exact ⟨[], .inl ⟨rfl, rfl, rfl, rfl⟩⟩
    · simp [Value.cells] at hcs
      obtain ⟨rfl, rfl, rfl⟩ := hcs
      exact ⟨zs, .inr ⟨_, rfl, hl, hm, by simpa using hz, hcell, hwz⟩⟩
  obtain ⟨A1, m1, c1, rfl⟩ := okWide_slice Tryd.underlying22 (hval 1 22 v1 rfl rfl)
  have k1 := h1
  have lt1 : ∀ x ∈ p1, x.block < W.heap.size := by obtain ⟨m, hm⟩ := k1; exact DataW.trod_lt m _ _ _ hm
  obtain ⟨vs1, xss1, hv1, ht1⟩ := open_texts Tryd.underlying22 Tryd.underlying24 Tryd.underlying5 (by kernel_rfl) (by kernel_rfl) h1
  clear hA0 hval0
  refine (walk a0 len0 cap0 z0 A1 m1 c1 vs1 xss1 W w0 hv1 ht1 hL).mono fun e W' ⟨he, bel⟩ => ?_
  subst he
  exact ⟨_, rfl, _, _, _, [], _, [], hW', trodAll_mk1 (shut_bool Tryd.underlying4 _), (trodAll_cons_mk (Below.trod laidOut (by kernel_rfl) (of_decide_eq_true (by kernel_rfl)) k0 bel lt0) (trodAll_cons_mk (Below.trod laidOut (by kernel_rfl) (of_decide_eq_true (by kernel_rfl)) k1 bel lt1) trodAll_mk0)), rfl, bel.frame _, fun h => by cases h⟩

theorem over : Rows.macTagsRow.holds Tryd.pinned (OpenSpec.ofChange Rows.macTagsSpec) :=
  OpenClaim.holds_of_wide 6 Tryd.f6 rfl rfl rfl rfl rfl rfl rfl ⟨rfl, rfl, rfl, rfl, rfl⟩ rfl rfl rfl rfl rfl (by kernel_rfl) Tryd.func6 (by kernel_rfl)
    (of_decide_eq_true (by kernel_rfl)) (by unfold Func.isWrapper; first | (rw [if_pos (by decide +kernel)]; kernel_rfl) | (rw [if_neg (by decide +kernel)]; exact ⟨rfl, rfl⟩))
    (fun os started H enc _ => lifted os started H enc)

/-- the statement -/
theorem proved : Rows.MacTagsCardSaid :=
  Claim7.holds_tied_plain_at .later [] [.data, .data] true (true, "74715a686186f48c3dd40144d148d95e47866ac8009af2670855dcda67169850") false
    over (fun _ h => by cases h) (by kernel_rfl) (fun _ h => by cases h) macTags_row_tie rfl ⟨rfl, rfl⟩ (by kernel_rfl) rfl
    (fun f fn hf hfn => by
      obtain rfl : f = 6 := Option.some.inj ((show Tryd.prog.funcNamed "domino/dominolaw03.MacTags" = some 6 by kernel_rfl).symm.trans hf) |>.symm
      obtain rfl : fn = Tryd.f6 := (Option.some.inj (Tryd.func6.symm.trans hfn)).symm
      exact ⟨by kernel_rfl, fun j t ht => by
        rw [Tryd.params6] at ht
        have hm : t ∈ [24, 22] := by simpa using Array.mem_of_getElem? ht
        have hall : ([24, 22].all fun u => !Tryd.prog.wantsStandIn u) = true := by kernel_rfl
        exact (show Tryd.prog.wantsStandIn t = false by simpa using List.all_eq_true.1 hall t hm)⟩)
    (by kernel_rfl)
#print axioms proved
end Go.Proofs.YtaggpecikiknkaaDoor.macTags
