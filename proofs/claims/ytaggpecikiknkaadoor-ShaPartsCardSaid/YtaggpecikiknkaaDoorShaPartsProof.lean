/-
  The law ShaParts of package dominolaw02 returns true for every text and every list of numbers: in how many parts bytes come, and where they are cut, plays no part. The tables of package sha hold what the program's text lays.
-/
import Derived.Test.YtaggpecikiknkaaDoorRows
import Derived.Test.YtaggpecikiknkaaDoorCards
import Derived.Test.YtaggpecikiknkaaDoorTie
import Derived.SevenTiedAt
import Derived.WalkKit
import Derived.ProofKit
import Derived.OpenShut
import Derived.ShutString
import Derived.ChangeOld
import Derived.Below
import Derived.LaidMore
import Derived.Stop.Joined
import Derived.Test.YtaggpecikiknkaaDoorAwake2
import Derived.Test.YtaggpecikiknkaaDoorLaid
import Derived.Test.YtaggpecikiknkaaDoorEq
import Derived.Test.YtaggpecikiknkaaDoorSumB
import Derived.Test.YtaggpecikiknkaaDoorCut
namespace Go.Proofs.YtaggpecikiknkaaDoor.shaParts
open Go.ChangeShapes Go.WideShapes Go.ChangeAt Go.RowKit
open Go.ChangeMaps (open_string shut_string)
open Go.Proofs.YtaggpecikiknkaaDoor.Mem Go.Proofs.YtaggpecikiknkaaDoor.Help Go.Proofs.YtaggpecikiknkaaDoor.Sum Go.Proofs.YtaggpecikiknkaaDoor.Sha
set_option linter.unusedVariables false

theorem own : ownKnob Tryd.prog.godebug = none := by kernel_rfl
theorem laidOut : laidOutB Tryd.prog = true := by kernel_rfl

/-- what a slice that came in leads to -/
def IsRow (k : IntKind) (w : World) (a : Option Addr) (len cap : Nat) (zs : List Int) : Prop :=
  (a = none ∧ len = 0 ∧ cap = 0 ∧ zs = []) ∨
  ∃ x, a = some x ∧ len ≤ cap ∧ cap ≤ maxLen ∧ zs.length = cap ∧ (∀ i, i < zs.length → w.cell? (x.add i) = some (.int k (zs.getD i 0))) ∧ ∀ n ∈ zs, (Lit.int k n).wf = true

def laidList : List (String × DataW Unit) := [("domino/sha.start", Rows.laid_domino_sha_start), ("domino/sha.words", Rows.laid_domino_sha_words)]

set_option maxRecDepth 100000 in
set_option maxHeartbeats 2000000 in
theorem start (A A' : Option Addr) (n c m c' : Nat) (zs cs : List Int) (w : World) (h : Ints w .u8 w.heap.size A n zs) (hc : n ≤ c) (hc' : c ≤ maxLen) (h' : Ints w .i64 w.heap.size A' m cs)
    (hT : Tab w 0 Sum.H0 ∧ Tab w 1 Sum.K) :
    Calls Tryd.prog 5 #[.slice A n c, .slice A' m c'] w fun e w' => e = .returned (.bool true) ∧ Below w.heap.size w w' := by
  by_cases hbig : 1500 < n ∨ 20 < m
  · rcases (by omega : 1500 < n ∨ (¬ 1500 < n ∧ 20 < m)) with hb | ⟨hb, hb'⟩
    · have q1 : (1500 : Int) < (n : Int) := by omega
      go_enter Tryd.func5, Tryd.ntmps5
      go_wp2_with (go_at_call 9; refine (awake2_any _ hT.1 hT.2).mono ?_; rintro e w' ⟨rfl, hb⟩)
      go_ret
      exact ⟨rfl, hb⟩
    · have q1 : ¬ (1500 : Int) < (n : Int) := by omega
      have q2 : (20 : Int) < (m : Int) := by omega
      go_enter Tryd.func5, Tryd.ntmps5
      go_wp2_with (go_at_call 9; refine (awake2_any _ hT.1 hT.2).mono ?_; rintro e w' ⟨rfl, hb⟩)
      go_ret
      exact ⟨rfl, hb⟩
  have hn1 : ¬ (1500 : Int) < (n : Int) := by omega
  have hm1 : ¬ (20 : Int) < (m : Int) := by omega
  have HL := Lib.hid h.1
  go_enter Tryd.func5, Tryd.ntmps5
  go_wp2_with fail
  refine (copy_any _ A n c zs _ h (by omega)).mono ?_
  rintro e w1 ⟨v1, rfl, hown, hb1⟩
  obtain ⟨A1, c1, rfl, hc1, hm1', i1⟩ := hown.form
  have hf1 := hown.flat
  have s1 := hb1.size
  rw [HL.out] at i1 hc1 ⊢
  clear hown
  unfold maxLen at hm1'
  go_wp2_with fail
  go_loopw [5, 6, 7] (fun p r i wr => ∃ k : Nat, k ≤ m ∧ i = .int .i64 k ∧ ∃ (Ar : Option Addr) (nr cr : Nat) (ys : List Int) (vs : List Value) (yss : List (List Int)), r = .slice Ar nr cr ∧ nr ≤ cr ∧ cr ≤ c1 ∧ nr ≤ n ∧ Flat Ar cr ∧ Ints w1 .u8 w1.heap.size Ar nr ys ∧
    wr.ownsRow w1.heap.size 24 1 p k vs ∧ Texts w1 w1.heap.size vs yss ∧ Hid (yss.flatten ++ ys = zs) ∧ Below w1.heap.size w1 wr) (fun _ _ i _ => m - (intOf i).toNat)
  case atStart => exact ⟨0, by omega, rfl, A1, n, c1, zs, [], [], rfl, hc1, Nat.le_refl _, Nat.le_refl _, hf1, i1, World.ownsRow_nil _ _ _ _, Texts.nil _ _, Lib.hid rfl, Below.refl _ _⟩
  case round =>
    obtain ⟨k, hk, rfl, Ar, nr, cr, ys, vs, yss, rfl, hnc, hcc, hnn, hfl, hi, hown, htx, hz, hbw⟩ := hrel
    have hsw := hbw.size
    have bw : Below w.heap.size w wr := hb1.trans (hbw.mono s1)
    by_cases hlt : k < m
    · obtain ⟨b, off, rfl, hb, hcell⟩ := (h'.below bw).at_ hlt
      have hlt' : (k : Int) < (m : Int) := by omega
      have hk0 : (0 : Int) ≤ (k : Int) := by omega
      generalize cs.getD k 0 = z at hcell
      have hnr : (nr : Int) ≤ 1500 := by omega
      have hu0 : 0 ≤ IntKind.u64.wrap z := by rw [IntKind.wrap_u64]; omega
      have hu1 : 0 ≤ IntKind.u64.wrap z % ((nr : Int) + 1) := Int.emod_nonneg _ (by omega)
      have hu2 : IntKind.u64.wrap z % ((nr : Int) + 1) < (nr : Int) + 1 := Int.emod_lt_of_pos _ (by omega)
      obtain ⟨q, hq⟩ : ∃ q : Nat, wrap64 ((IntKind.u64.wrap z).tmod ((nr : Int) + 1)) = (q : Int) := ⟨(IntKind.u64.wrap z % ((nr : Int) + 1)).toNat, by rw [Int.tmod_eq_emod_of_nonneg hu0]; unfold wrap64; omega⟩
      have hqn : q ≤ nr := by rw [Int.tmod_eq_emod_of_nonneg hu0] at hq; unfold wrap64 at hq; omega
      clear hu0 hu1 hu2
      have e1 := fun W => run_front (P := Tryd.prog) (t := 24) (e := 5) (n := nr) Tryd.underlying24 (by kernel_rfl) hfl (h := q) (by omega) W
      obtain ⟨A2, e2, hf2, hi2⟩ := run_back (P := Tryd.prog) (t := 24) (e := 5) Tryd.underlying24 (by kernel_rfl) hfl hnc hqn hi
      have hif := hi.front hqn
      have T1 := Texts.one (hif) (show q ≤ cr by omega) (show cr ≤ maxLen by unfold maxLen; omega)
      have HZ := Lib.hid (show (yss ++ [ys.take q]).flatten ++ ys.drop q = zs by rw [← hz.out]; simp)
      go_wp2_with (at_builtin; refine wpList_append_vals _ rfl _ _ 22 rfl w1.heap.size 24 (.slice none 0 0) 24 Tryd.underlying22 info_bytes rfl _ k vs rfl (hown.alloc _) (wr.heap.size + 1) (some ⟨wr.heap.size, 0, none⟩) 1 1 [.slice Ar q cr] rfl (Vals.new wr 24 [.slice Ar q cr] (by simp [Value.oneCell'])) (by omega) (by omega) (by simp; omega) ?_; intro v2 w2 hown2 hg2 hat2)
      have hb2 : Below w1.heap.size w1 w2 := (hbw.alloc hsw _).grown hg2 (by simp; omega) (fun r e => by have := (hown.lt r e).1; omega)
      go_roundw
      case rel => exact ⟨k + 1, by omega, by go_num, A2, nr - q, cr - q, ys.drop q, vs ++ [.slice Ar q cr], yss ++ [ys.take q], rfl, by omega, by omega, by omega, hf2, hi2, hown2, htx.append T1, HZ, hb2⟩
      case measure => simp [intOf]; omega
    · have hkm : k = m := by omega
      subst hkm
      have T2 := (Texts.one hi (show nr ≤ cr by omega) (show cr ≤ maxLen by unfold maxLen; omega)).cons (Texts.one (Ints.nil w1 .u8 w1.heap.size none) (Nat.le_refl 0) (by simp [maxLen]))
      have TX := htx.append T2
      have HZ := Lib.hid (show (yss ++ [ys, []]).flatten = zs by rw [← hz.out]; simp)
      have hlt' : ¬ (k : Int) < (k : Int) := by omega
      clear T2 htx hz hi hfl
      go_wp2_with (at_builtin; refine wpList_append_vals _ rfl _ _ 22 rfl w1.heap.size 24 (.slice none 0 0) 24 Tryd.underlying22 info_bytes rfl _ k vs rfl (hown.alloc _) (wr.heap.size + 1) (some ⟨wr.heap.size, 0, none⟩) 2 2 [.slice Ar nr cr, .slice none 0 0] rfl (Vals.new wr 24 [.slice Ar nr cr, .slice none 0 0] (by simp [Value.oneCell'])) (by omega) (by omega) (by simp; omega) ?_; intro v2 w2 hown2 hg2 hat2)
      have hb2 : Below w1.heap.size w1 w2 := (hbw.alloc hsw _).grown hg2 (by simp; omega) (fun r e => by have := (hown.lt r e).1; omega)
      clear hown hg2 hat2
      obtain ⟨A3, c3, rfl⟩ : ∃ A3 c3, v2 = .slice A3 (k + 2) c3 := by
        rcases hown2.2 with ⟨rfl, h0⟩ | ⟨g, cap, cur, rfl, _⟩
        · omega
        · exact ⟨_, _, rfl⟩
      have hv2 := ownsRow_vals hown2 (fun v hv => TX.one_cell v hv)
      have b2 : Below w.heap.size w w2 := hb1.trans (hb2.mono s1)
      have tx2 := TX.below hb2
      have s2 := hb2.size
      have bz : Bs zs := fun z hz => wf_u8 (h.2.1 z hz)
      have hu := fun W zs => eql_arr (P := Tryd.prog) W 26 5 32 .u8 (Sum.sha zs) Tryd.underlying26 Tryd.underlying5 rfl (out_length _)
      clear hown2 TX
      go_wp2_with fail
      refine (awake2_any _ (hT.1.below b2 hT.1.lt) (hT.2.below b2 hT.2.lt)).mono ?_
      rintro e w3 ⟨rfl, hb3⟩
      have d3 := hb2.trans (hb3.mono s2)
      have b3 := hb1.trans (d3.mono s1)
      have v3 := hv2.below hb3
      have s3 := hb3.size
      go_wp2_with fail
      refine (sum_any w2.heap.size _ _ _ _ (yss ++ [ys, []]) _ v3 ((tx2.more s2).below hb3) s3 (by omega) (by rw [HZ.out, HL.out]; omega) (by rw [HZ.out]; exact bz) (hT.1.below b3 hT.1.lt) (hT.2.below b3 hT.2.lt)).mono ?_
      rw [HZ.out]
      rintro e w4 ⟨rfl, hb4⟩
      have b4 := b3.trans (hb4.mono b3.size)
      clear v3 hv2 tx2 hb4 hb3 d3 b3 hb2
      go_wp2_with fail
      refine (sum_one _ _ A n _ c zs (h.below b4) b4.size hc hc' (by omega) (hT.1.below b4 hT.1.lt) (hT.2.below b4 hT.2.lt)).mono ?_
      rintro e w5 ⟨rfl, hb5⟩
      have b5 := b4.trans (hb5.mono b4.size)
      go_wp2_with fail
      refine (sum_any w5.heap.size none 0 0 [] [] _ (Vals.nil _ _ _) (Texts.nil _ _) (Nat.le_refl _) (by omega) (by simp) (by simp [Bs]) (hT.1.below b5 hT.1.lt) (hT.2.below b5 hT.2.lt)).mono ?_
      rintro e w6 ⟨rfl, hb6⟩
      have b6 := b5.trans (hb6.mono b5.size)
      go_wp2_with fail
      refine (sum_one _ w6.heap.size none 0 _ 0 [] (Ints.nil _ _ _ _) (Nat.le_refl _) (Nat.le_refl _) (by simp [maxLen]) (by omega) (hT.1.below b6 hT.1.lt) (hT.2.below b6 hT.2.lt)).mono ?_
      rintro e w7 ⟨rfl, hb7⟩
      have b7 := b6.trans (hb7.mono b6.size)
      go_wp2_with fail
      go_ret
      exact ⟨rfl, b7⟩

theorem walk (a0 : Option Addr) (len0 cap0 : Nat) (z0 : List Int) (a1 : Option Addr) (len1 cap1 : Nat) (z1 : List Int) (w : World) (w0 : IsRow .u8 w a0 len0 cap0 z0) (w1 : IsRow .i64 w a1 len1 cap1 z1) (hL : laidMetH Tryd.prog laidList w) :
    Calls Tryd.prog 5 #[.slice a0 len0 cap0, .slice a1 len1 cap1] w fun e w' => e = .returned (.bool true) ∧ Below w.heap.size w w' := by
  obtain ⟨h, hl, hm⟩ := ints_of_row w0
  obtain ⟨h', hl', hm'⟩ := ints_of_row w1
  exact start a0 a1 len0 cap0 len1 cap1 _ _ w h hl hm h' (sha_of_laid hL)

set_option maxRecDepth 100000 in
theorem door_met (os : Os) (args : Array Value) : laidMetH Tryd.prog laidList ((World.doorLaid Tryd.prog 400 os).forCall (fun _ _ => 0) ⟨#[], args, []⟩).memory :=
  laidMetH_of_parts3 (fuel := 8) (laidMet_of_run' 8 (by kernel_rfl) (by kernel_rfl)) (by kernel_rfl) (by kernel_rfl)

set_option maxRecDepth 100000 in
theorem lifted (os : Os) (started : os.Started) (H : Type) (enc : TypeId × Value → H) :
    ReturnsInHanded {} Tryd.checked os 5 .any (fun w args => (Rows.shaPartsSpec.pre enc Tryd.prog Tryd.f5 [] false w args ∧ laidMetH Tryd.prog laidList w) ∧ sizedMet enc Tryd.prog Tryd.f5 (OpenSpec.ofChange Rows.shaPartsSpec) false w args)
      (Rows.shaPartsSpec.post enc Tryd.prog Tryd.f5 false true false false) := by
  refine returnsInHanded_of_change_and (C := Tryd.checked) (X := fun w _ => laidMetH Tryd.prog laidList w) (fun _ _ _ hh h => h.of_heap hh) own started (by kernel_rfl) Tryd.func5
    (ChangeSpec.witness_shaped (enc := enc) (C := Tryd.checked) (os := os) (X := fun w _ => laidMetH Tryd.prog laidList w) false (World.doorLaid Tryd.prog 400 os) #[.slice none 0 0, .slice none 0 0] 8 rfl (World.shaped_of_RefB (by kernel_rfl) (by kernel_rfl)) (by kernel_rfl) (by kernel_rfl) (by kernel_rfl) (door_met os _)) ?_
  intro W base args ds gs before hval0 hW _ _ hL _
  have hval : ∀ (j : Nat) t v, Tryd.f5.params[j]? = some t → args[j]? = some v → Value.okWide Tryd.prog W .any base t v := hval0
  have hW' := hW
  obtain ⟨p, q, hA0, hV, rfl, hfz, hnd⟩ := hW
  have hA : DataW.TrodAll enc Tryd.prog W 0 (fun _ => true) true Tryd.f5.params.toList args.toList ds p := hA0
  rw [Tryd.params5] at hA hval
  obtain ⟨v0, vs0, d0, ds0, p0, q0, hargs, rfl, rfl, h0, r0⟩ := trodAll_cons hA
  obtain ⟨v1, vs1, d1, ds1, p1, q1, rfl, rfl, rfl, h1, r1⟩ := trodAll_cons r0
  obtain ⟨rfl, rfl, rfl⟩ := trodAll_nil r1
  obtain rfl : args = #[v0, v1] := by cases args; simp_all
  obtain ⟨rfl, rfl⟩ := trodVars_none hV
  obtain ⟨a0, len0, cap0, rfl⟩ := okWide_slice Tryd.underlying24 (hval 0 24 v0 rfl rfl)
  have k0 := h0
  have lt0 : ∀ x ∈ p0, x.block < W.heap.size := by obtain ⟨m, hm⟩ := k0; exact DataW.trod_lt m _ _ _ hm
  obtain ⟨z0, w0⟩ : ∃ zs, IsRow .u8 W a0 len0 cap0 zs := by
    obtain ⟨fuel, hf⟩ := h0
    rcases open_ints Tryd.underlying24 Tryd.underlying5 (by kernel_rfl) hf with ⟨hcs, _⟩ | ⟨x, l, c, zs, hcs, _, hl, hm, hz, _, hcell, hwz⟩
    · simp [Value.cells] at hcs
      obtain ⟨rfl, rfl, rfl⟩ := hcs
      exact ⟨[], .inl ⟨rfl, rfl, rfl, rfl⟩⟩
    · simp [Value.cells] at hcs
      obtain ⟨rfl, rfl, rfl⟩ := hcs
      exact ⟨zs, .inr ⟨_, rfl, hl, hm, by simpa using hz, hcell, hwz⟩⟩
  obtain ⟨a1, len1, cap1, rfl⟩ := okWide_slice Tryd.underlying33 (hval 1 33 v1 rfl rfl)
  have k1 := h1
  have lt1 : ∀ x ∈ p1, x.block < W.heap.size := by obtain ⟨m, hm⟩ := k1; exact DataW.trod_lt m _ _ _ hm
  obtain ⟨z1, w1⟩ : ∃ zs, IsRow .i64 W a1 len1 cap1 zs := by
    obtain ⟨fuel, hf⟩ := h1
    rcases open_ints Tryd.underlying33 Tryd.underlying3 (by kernel_rfl) hf with ⟨hcs, _⟩ | ⟨x, l, c, zs, hcs, _, hl, hm, hz, _, hcell, hwz⟩
    · simp [Value.cells] at hcs
      obtain ⟨rfl, rfl, rfl⟩ := hcs
      exact ⟨[], .inl ⟨rfl, rfl, rfl, rfl⟩⟩
    · simp [Value.cells] at hcs
      obtain ⟨rfl, rfl, rfl⟩ := hcs
      exact ⟨zs, .inr ⟨_, rfl, hl, hm, by simpa using hz, hcell, hwz⟩⟩
  clear hA0 hval0
  refine (walk a0 len0 cap0 z0 a1 len1 cap1 z1 W w0 w1 hL).mono fun e W' ⟨he, bel⟩ => ?_
  subst he
  exact ⟨_, rfl, _, _, _, [], _, [], hW', trodAll_mk1 (shut_bool Tryd.underlying4 _), (trodAll_cons_mk (Below.trod laidOut (by kernel_rfl) (of_decide_eq_true (by kernel_rfl)) k0 bel lt0) (trodAll_cons_mk (Below.trod laidOut (by kernel_rfl) (of_decide_eq_true (by kernel_rfl)) k1 bel lt1) trodAll_mk0)), rfl, bel.frame _, fun h => by cases h⟩

theorem over : Rows.shaPartsRow.holds Tryd.pinned (OpenSpec.ofChange Rows.shaPartsSpec) :=
  OpenClaim.holds_of_wide 5 Tryd.f5 rfl rfl rfl rfl rfl rfl rfl ⟨rfl, rfl, rfl, rfl, rfl⟩ rfl rfl rfl rfl rfl (by kernel_rfl) Tryd.func5 (by kernel_rfl)
    (of_decide_eq_true (by kernel_rfl)) (by unfold Func.isWrapper; first | (rw [if_pos (by decide +kernel)]; kernel_rfl) | (rw [if_neg (by decide +kernel)]; exact ⟨rfl, rfl⟩))
    (fun os started H enc _ => lifted os started H enc)

/-- the statement -/
theorem proved : Rows.ShaPartsCardSaid :=
  Claim7.holds_tied_plain_at .later [] [.data, .data] true (true, "74715a686186f48c3dd40144d148d95e47866ac8009af2670855dcda67169850") false
    over (fun _ h => by cases h) (by kernel_rfl) (fun _ h => by cases h) shaParts_row_tie rfl ⟨rfl, rfl⟩ (by kernel_rfl) rfl
    (fun f fn hf hfn => by
      obtain rfl : f = 5 := Option.some.inj ((show Tryd.prog.funcNamed "domino/dominolaw02.ShaParts" = some 5 by kernel_rfl).symm.trans hf) |>.symm
      obtain rfl : fn = Tryd.f5 := (Option.some.inj (Tryd.func5.symm.trans hfn)).symm
      exact ⟨by kernel_rfl, fun j t ht => by
        rw [Tryd.params5] at ht
        have hm : t ∈ [24, 33] := by simpa using Array.mem_of_getElem? ht
        have hall : ([24, 33].all fun u => !Tryd.prog.wantsStandIn u) = true := by kernel_rfl
        exact (show Tryd.prog.wantsStandIn t = false by simpa using List.all_eq_true.1 hall t hm)⟩)
    (by kernel_rfl)
#print axioms proved
end Go.Proofs.YtaggpecikiknkaaDoor.shaParts
