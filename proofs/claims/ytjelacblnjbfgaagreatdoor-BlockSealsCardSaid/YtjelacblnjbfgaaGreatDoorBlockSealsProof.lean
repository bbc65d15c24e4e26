/-
  The law BlockSeals of package dominolaw10 returns true for every job, place, list of records, size and bytes: what is sealed, and what is opened, is the document's own answer.
-/
import Derived.Test.YtjelacblnjbfgaaGreatDoorRows
import Derived.Test.YtjelacblnjbfgaaGreatDoorCards
import Derived.Test.YtjelacblnjbfgaaGreatDoorTie
import Derived.SevenTiedAt
import Derived.WalkKit
import Derived.ProofKit
import Derived.OpenShut
import Derived.ShutString
import Derived.ChangeOld
import Derived.Below
import Derived.LaidMore
import Derived.Stop.Joined
import Derived.Test.YtjelacblnjbfgaaGreatDoorB23
import Derived.Test.YtjelacblnjbfgaaGreatDoorB28
import Derived.Test.YtjelacblnjbfgaaGreatDoorB13
import Derived.Test.YtjelacblnjbfgaaGreatDoorB8
import Derived.Test.YtjelacblnjbfgaaGreatDoorB30
namespace Go.Proofs.YtjelacblnjbfgaaGreatDoor.blockSeals
open Go.ChangeShapes Go.WideShapes Go.ChangeAt Go.RowKit
open Go.ChangeMaps (open_string shut_string)
open Go.Shelf Go.Proofs.YtjelacblnjbfgaaGreatDoor Mem Help Go.Proofs.YtjelacblnjbfgaaGreatDoor.Sum Po Ky Go.Proofs.YtjelacblnjbfgaaGreatDoor.Bit Held Rc Rs
theorem own : ownKnob Tryz.prog.godebug = none := by kernel_rfl
theorem laidOut : laidOutB Tryz.prog = true := by kernel_rfl
def IsRow (k : IntKind) (w : World) (a : Option Addr) (len cap : Nat) (zs : List Int) : Prop :=
  (a = none ∧ len = 0 ∧ cap = 0 ∧ zs = []) ∨
  ∃ x, a = some x ∧ len ≤ cap ∧ cap ≤ maxLen ∧ zs.length = cap ∧ (∀ i, i < zs.length → w.cell? (x.add i) = some (.int k (zs.getD i 0))) ∧ ∀ n ∈ zs, (Lit.int k n).wf = true
def laidList : List (String × DataW Unit) := [("domino/chacha.start", Rows.laid_domino_chacha_start), ("domino/poly.kept", Rows.laid_domino_poly_kept), ("domino/sha.start", Rows.laid_domino_sha_start), ("domino/sha.words", Rows.laid_domino_sha_words)]
attribute [local irreducible] wpList Calls
theorem blockOR_wf (job : List Int) (ph rr ad tm ix size : Int) (b : List Int) : ∀ r ∈ blockOR job ph rr ad tm ix size b, r.wf := by
  unfold blockOR
  split
  · exact fun r hr => absurd hr (by simp)
  · split
    · exact takesR_wf _ _
    · exact fun r hr => absurd hr (by simp)
theorem blockOR_length (job : List Int) (ph rr ad tm ix size : Int) (b : List Int) : (blockOR job ph rr ad tm ix size b).length ≤ 8 := by
  unfold blockOR
  split
  · simp
  · split
    · exact takesR_length _ _
    · simp
set_option maxRecDepth 100000 in
set_option maxHeartbeats 16000000 in
theorem start (B0 : Nat) (job : List Int) (ph rr ad tm ix : Int) (A : Option Addr) (n c : Nat) (rs : List R) (size : Int) (A2 : Option Addr) (n2 c2 : Nat) (zs : List Int) (u : World) (hL : LaidB B0 u) (hB0 : B0 ≤ u.heap.size) (hk : job.length = 32) (hkb : ∀ z ∈ job, (Lit.int .u8 z).wf = true) (hp : (Lit.int .i64 ph).wf = true) (hq : (Lit.int .i64 rr).wf = true) (ha : (Lit.int .i64 ad).wf = true) (ht : (Lit.int .u64 tm).wf = true) (hi : (Lit.int .i64 ix).wf = true) (hr : Recs u u.heap.size A n rs) (hz : Ints u .u8 u.heap.size A2 n2 zs) (hf : Flat A2 c2) (hc2 : n2 ≤ c2) (hcm2 : c2 ≤ maxLen) :
    Calls Tryz.prog 3 #[.agg (arr .u8 job), .agg #[.int .i64 ph, .int .i64 rr, .int .i64 ad, .int .u64 tm, .int .i64 ix], .slice A n c, .int .i64 size, .slice A2 n2 c2] u fun e u' => e = .returned (.bool true) ∧ Below u.heap.size u u' := by
  by_cases hbig : 50 < n
  · have hbi : (50 : Int) < (n : Int) := by omega
    go_enter Tryz.func3, Tryz.ntmps3
    go_wp2_with (first
      | (refine wpList_box_Row (w := u) rfl 22 _ rfl .u8 job rfl hkb ?_; intro u1 r1 g1 z1)
      | (refine wpList_box_blk (w := u1) rfl 25 _ rfl #[.int .i64 ph, .int .i64 rr, .int .i64 ad, .int .u64 tm, .int .i64 ix] rfl ?_; intro u2 p1 g2 z2; have r1 := r1.grown g2 (by simp)))
    have b2 : Below u.heap.size u u2 := ((Below.refl _ u).grown g1 (Nat.le_refl _) (by simp)).grown g2 g1.size (by simp)
    clear g1 g2 z1 z2
    refine (awake10_any u2).mono ?_
    rintro e u3 ⟨rfl, b3⟩
    have b3 := b2.trans (b3.mono b2.size)
    go_wp2_with fail
    go_ret
    exact ⟨rfl, b3⟩
  have hbi : ¬ (50 : Int) < (n : Int) := by omega
  by_cases hbig2 : 1000 < n2
  · have hbi2 : (1000 : Int) < (n2 : Int) := by omega
    go_enter Tryz.func3, Tryz.ntmps3
    go_wp2_with (first
      | (refine wpList_box_Row (w := u) rfl 22 _ rfl .u8 job rfl hkb ?_; intro u1 r1 g1 z1)
      | (refine wpList_box_blk (w := u1) rfl 25 _ rfl #[.int .i64 ph, .int .i64 rr, .int .i64 ad, .int .u64 tm, .int .i64 ix] rfl ?_; intro u2 p1 g2 z2; have r1 := r1.grown g2 (by simp)))
    have b2 : Below u.heap.size u u2 := ((Below.refl _ u).grown g1 (Nat.le_refl _) (by simp)).grown g2 g1.size (by simp)
    clear g1 g2 z1 z2
    refine (awake10_any u2).mono ?_
    rintro e u3 ⟨rfl, b3⟩
    have b3 := b2.trans (b3.mono b2.size)
    go_wp2_with fail
    go_ret
    exact ⟨rfl, b3⟩
  have hbi2 : ¬ (1000 : Int) < (n2 : Int) := by omega
  obtain ⟨E, hE⟩ : ∃ E, packE n size = E := ⟨_, rfl⟩
  obtain ⟨F, hF⟩ : ∃ F, blockOE job ph rr ad tm ix size zs = F := ⟨_, rfl⟩
  have HE := Lib.hid hE
  have HF := Lib.hid hF
  clear hE hF
  go_enter Tryz.func3, Tryz.ntmps3
  go_wp2_with (first
    | (refine wpList_box_Row (w := u) rfl 22 _ rfl .u8 job rfl hkb ?_; intro u1 r1 g1 z1)
    | (refine wpList_box_blk (w := u1) rfl 25 _ rfl #[.int .i64 ph, .int .i64 rr, .int .i64 ad, .int .u64 tm, .int .i64 ix] rfl ?_; intro u2 p1 g2 z2; have r1 := r1.grown g2 (by simp))
    | (refine wpList_load_Row (w := u2) rfl 22 _ rfl u.heap.size rfl 22 .u8 _ r1 32 5 Tryz.underlying22 (by kernel_rfl) hk ?_)
    | (refine wpList_load_blk (w := u2) rfl 25 _ rfl u1.heap.size 5 rfl 25 _ p1 _ Tryz.underlying25 rfl (by kernel_rfl) rfl ?_))
  have b2 : Below u.heap.size u u2 := ((Below.refl _ u).grown g1 (Nat.le_refl _) (by simp)).grown g2 g1.size (by simp)
  clear g1 g2 z1 z2
  refine (seals_any B0 job hk hkb ph rr ad tm ix hp hq ha ht hi u2.heap.size A n c rs size u2 (hL.below (b2.mono hB0)) (Nat.le_trans hB0 b2.size) ((hr.below b2).more b2.size) (Nat.le_refl _)).mono ?_
  rintro e u3 ⟨A3, n3, c3, rfl, h3, o3, b3⟩
  rw [HE.out]
  have r1 := r1.below b3 r1.lt
  have p1 := p1.after b3
  have b3 := b2.trans (b3.mono b2.size)
  clear b2
  go_wp2_with (first
    | (refine wpList_load_Row (w := u3) rfl 22 _ rfl u.heap.size rfl 22 .u8 _ r1 32 5 Tryz.underlying22 (by kernel_rfl) hk ?_)
    | (refine wpList_load_blk (w := u3) rfl 25 _ rfl u1.heap.size 5 rfl 25 _ p1 _ Tryz.underlying25 rfl (by kernel_rfl) rfl ?_))
  refine (rseals_any job hk hkb ph rr ad tm ix ht u3.heap.size A n c rs size u3 ((hr.below b3).more b3.size) (Nat.le_refl _)).mono ?_
  rintro e u4 ⟨A4, n4, c4, rfl, h4, o4, b4⟩
  rw [HE.out]
  have r1 := r1.below b4 r1.lt
  have p1 := p1.after b4
  have o3 := o3.below b4
  have b4 := b3.trans (b4.mono b3.size)
  clear b3
  go_wp2_with (first
    | (refine wpList_load_Row (w := u4) rfl 22 _ rfl u.heap.size rfl 22 .u8 _ r1 32 5 Tryz.underlying22 (by kernel_rfl) hk ?_)
    | (refine wpList_load_blk (w := u4) rfl 25 _ rfl u1.heap.size 5 rfl 25 _ p1 _ Tryz.underlying25 rfl (by kernel_rfl) rfl ?_))
  refine (opens_any B0 job hk hkb ph rr ad tm ix hp hq ha ht hi u4.heap.size A2 n2 c2 zs size u4 (hL.below (b4.mono hB0)) (Nat.le_trans hB0 b4.size) ((hz.below b4).more b4.size) (Nat.le_refl _) hf hc2 hcm2 (by omega)).mono ?_
  rintro e u5 ⟨A5, n5, c5, rfl, o5, b5⟩
  rw [HF.out]
  have r1 := r1.below b5 r1.lt
  have p1 := p1.after b5
  have o3 := o3.below b5
  have o4 := o4.below b5
  have b5 := b4.trans (b5.mono b4.size)
  clear b4
  go_wp2_with (first
    | (refine wpList_load_Row (w := u5) rfl 22 _ rfl u.heap.size rfl 22 .u8 _ r1 32 5 Tryz.underlying22 (by kernel_rfl) hk ?_)
    | (refine wpList_load_blk (w := u5) rfl 25 _ rfl u1.heap.size 5 rfl 25 _ p1 _ Tryz.underlying25 rfl (by kernel_rfl) rfl ?_))
  refine (ropens_any job hk hkb ph rr ad tm ix ht u5.heap.size A2 n2 c2 zs size u5 ((hz.below b5).more b5.size) (Nat.le_refl _) hf hc2 (by omega)).mono ?_
  rintro e u6 ⟨A6, n6, c6, rfl, o6, b6⟩
  rw [HF.out]
  have o3 := o3.below b6
  have o4 := o4.below b6
  have o5 := o5.below b6
  have b6 := b5.trans (b6.mono b5.size)
  clear b5 r1 p1
  go_wp2_with fail
  refine (awake10_any u6).mono ?_
  rintro e u7 ⟨rfl, b7⟩
  have o3 := o3.below b7
  have o4 := o4.below b7
  have o5 := o5.below b7
  have o6 := o6.below b7
  have b7 := b6.trans (b7.mono b6.size)
  clear b6
  go_wp2_with fail
  refine (bytes_same u7.heap.size u7.heap.size A3 A4 n3 n4 c3 c4 _ _ u7 (o3.ints h3.out) (o4.ints h4.out) rfl).mono ?_
  rintro e u8 ⟨rfl, b8⟩
  have h5 := (o5.below b8).recs (blockOR_wf _ _ _ _ _ _ _ _)
  have h6 := (o6.below b8).recs (blockOR_wf _ _ _ _ _ _ _ _)
  have b8 := b7.trans (b8.mono b7.size)
  clear b7 o3 o4 o5 o6 h3 h4
  go_wp2_with fail
  refine (plain_any u8.heap.size u8.heap.size A5 A6 n5 n6 c5 c6 _ _ u8 h5 h6 (Nat.le_refl _) (Nat.le_refl _) (by have := h5.1; have := blockOR_length job ph rr ad tm ix size zs; omega) (by have := h6.1; have := blockOR_length job ph rr ad tm ix size zs; omega)).mono ?_
  rintro e u9 ⟨rfl, b9⟩
  rw [decide_eq_true (rfl : blockOR job ph rr ad tm ix size zs = blockOR job ph rr ad tm ix size zs)]
  have b9 := b8.trans (b9.mono b8.size)
  clear h5 h6 b8
  go_wp2_with fail
  go_ret
  exact ⟨rfl, b9⟩
theorem walk (z0 : List Int) (ph1 rr1 ad1 at1 ix1 : Int) (A2 : Option Addr) (m2 c2 : Nat) (rs2 : List Rs.R) (a3 : Int) (a4 : Option Addr) (len4 cap4 : Nat) (z4 : List Int) (w : World) (zl0 : z0.length = 32) (zw0 : ∀ z ∈ z0, (Lit.int .u8 z).wf = true) (wp1 : (Lit.int .i64 ph1).wf = true) (wr1 : (Lit.int .i64 rr1).wf = true) (wa1 : (Lit.int .i64 ad1).wf = true) (wt1 : (Lit.int .u64 at1).wf = true) (wi1 : (Lit.int .i64 ix1).wf = true) (hr2 : Rs.Recs w w.heap.size A2 m2 rs2) (hc2 : m2 ≤ c2 ∧ c2 ≤ maxLen) (w3 : (Lit.int .i64 a3).wf = true) (w4 : IsRow .u8 w a4 len4 cap4 z4) (hL : laidMetH Tryz.prog laidList w) :
    Calls Tryz.prog 3 #[.agg (Mem.arr .u8 z0), .agg #[.int .i64 ph1, .int .i64 rr1, .int .i64 ad1, .int .u64 at1, .int .i64 ix1], .slice A2 m2 c2, .int .i64 a3, .slice a4 len4 cap4] w fun e w' => e = .returned (.bool true) ∧ Below w.heap.size w w' := by
  obtain ⟨hz, _, hf, hn, hm⟩ := Ae.arg_of_row w4
  exact start w.heap.size z0 ph1 rr1 ad1 at1 ix1 A2 m2 c2 rs2 a3 a4 len4 cap4 _ w (laid_of hL) (Nat.le_refl _) zl0 zw0 wp1 wr1 wa1 wt1 wi1 hr2 hz hf hn hm
set_option maxRecDepth 100000 in
theorem door_met (os : Os) (args : Array Value) : laidMetH Tryz.prog laidList ((World.doorLaid Tryz.prog 400 os).forCall (fun _ _ => 0) ⟨#[], args, []⟩).memory :=
  laidMetH_of_parts3 (fuel := 8) (laidMet_of_run' 8 (by kernel_rfl) (by kernel_rfl)) (by kernel_rfl) (by kernel_rfl)
set_option maxRecDepth 100000 in
theorem lifted (os : Os) (started : os.Started) (H : Type) (enc : TypeId × Value → H) :
    ReturnsInHanded {} Tryz.checked os 3 .any (fun w args => (Rows.blockSealsSpec.pre enc Tryz.prog Tryz.f3 [] false w args ∧ laidMetH Tryz.prog laidList w) ∧ sizedMet enc Tryz.prog Tryz.f3 (OpenSpec.ofChange Rows.blockSealsSpec) false w args)
      (Rows.blockSealsSpec.post enc Tryz.prog Tryz.f3 false true false false) := by
  refine returnsInHanded_of_change_and (C := Tryz.checked) (X := fun w _ => laidMetH Tryz.prog laidList w) (fun _ _ _ hh h => h.of_heap hh) own started (by kernel_rfl) Tryz.func3
    (ChangeSpec.witness_shaped (enc := enc) (C := Tryz.checked) (os := os) (X := fun w _ => laidMetH Tryz.prog laidList w) false (World.doorLaid Tryz.prog 400 os) #[.agg (Array.replicate 32 (.int .u8 0)), .agg #[.int .i64 0, .int .i64 0, .int .i64 0, .int .u64 0, .int .i64 0], .slice none 0 0, .int .i64 0, .slice none 0 0] 8 rfl (World.shaped_of_RefB (by kernel_rfl) (by kernel_rfl)) (by kernel_rfl) (by kernel_rfl) (by kernel_rfl) (door_met os _)) ?_
  intro W base args ds gs before hval0 hW _ _ hL _
  have hval : ∀ (j : Nat) t v, Tryz.f3.params[j]? = some t → args[j]? = some v → Value.okWide Tryz.prog W .any base t v := hval0
  have hW' := hW
  obtain ⟨p, q, hA0, hV, rfl, hfz, hnd⟩ := hW
  have hA : DataW.TrodAll enc Tryz.prog W 0 (fun _ => true) true Tryz.f3.params.toList args.toList ds p := hA0
  rw [Tryz.params3] at hA hval
  obtain ⟨v0, vs0, d0, ds0, p0, q0, hargs, rfl, rfl, h0, r0⟩ := trodAll_cons hA
  obtain ⟨v1, vs1, d1, ds1, p1, q1, rfl, rfl, rfl, h1, r1⟩ := trodAll_cons r0
  obtain ⟨v2, vs2, d2, ds2, p2, q2, rfl, rfl, rfl, h2, r2⟩ := trodAll_cons r1
  obtain ⟨v3, vs3, d3, ds3, p3, q3, rfl, rfl, rfl, h3, r3⟩ := trodAll_cons r2
  obtain ⟨v4, vs4, d4, ds4, p4, q4, rfl, rfl, rfl, h4, r4⟩ := trodAll_cons r3
  obtain ⟨rfl, rfl, rfl⟩ := trodAll_nil r4
  obtain rfl : args = #[v0, v1, v2, v3, v4] := by cases args; simp_all
  obtain ⟨rfl, rfl⟩ := trodVars_none hV
  have k0 := h0
  have lt0 : ∀ x ∈ p0, x.block < W.heap.size := by obtain ⟨m, hm⟩ := k0; exact DataW.trod_lt m _ _ _ hm
  obtain ⟨z0, rfl, zl0, zw0⟩ := Mem.open_arr Tryz.underlying22 Tryz.underlying5 (by kernel_rfl) (by kernel_rfl) (hval 0 22 v0 rfl rfl) h0
  have k1 := h1
  have lt1 : ∀ x ∈ p1, x.block < W.heap.size := by obtain ⟨m, hm⟩ := k1; exact DataW.trod_lt m _ _ _ hm
  obtain ⟨ph1, rr1, ad1, at1, ix1, rfl, wp1, wr1, wa1, wt1, wi1⟩ := Ky.open_place (hval 1 25 v1 rfl rfl) h1
  obtain ⟨A2, m2, c2, rfl⟩ := okWide_slice Tryz.underlying26 (hval 2 26 v2 rfl rfl)
  have kk2 := h2
  have lt2 : ∀ x ∈ p2, x.block < W.heap.size := by obtain ⟨m, hm⟩ := kk2; exact DataW.trod_lt m _ _ _ hm
  obtain ⟨rs2, hr2, hc2⟩ := Rs.open_recs h2
  obtain ⟨a3, rfl, rfl, rfl, w3⟩ := open_int Tryz.underlying3 (hval 3 3 v3 rfl rfl) h3
  obtain ⟨a4, len4, cap4, rfl⟩ := okWide_slice Tryz.underlying27 (hval 4 27 v4 rfl rfl)
  have k4 := h4
  have lt4 : ∀ x ∈ p4, x.block < W.heap.size := by obtain ⟨m, hm⟩ := k4; exact DataW.trod_lt m _ _ _ hm
  obtain ⟨z4, w4⟩ : ∃ zs, IsRow .u8 W a4 len4 cap4 zs := by
    obtain ⟨fuel, hf⟩ := h4
    rcases open_ints Tryz.underlying27 Tryz.underlying5 (by kernel_rfl) hf with ⟨hcs, _⟩ | ⟨x, l, c, zs, hcs, _, hl, hm, hz, _, hcell, hwz⟩
    · simp [Value.cells] at hcs
      obtain ⟨rfl, rfl, rfl⟩ := hcs
      exact ⟨[], .inl ⟨rfl, rfl, rfl, rfl⟩⟩
    · simp [Value.cells] at hcs
      obtain ⟨rfl, rfl, rfl⟩ := hcs
      exact ⟨zs, .inr ⟨_, rfl, hl, hm, by simpa using hz, hcell, hwz⟩⟩
  clear hA0 hval0
  refine (walk z0 ph1 rr1 ad1 at1 ix1 A2 m2 c2 rs2 a3 a4 len4 cap4 z4 W zl0 zw0 wp1 wr1 wa1 wt1 wi1 hr2 hc2 w3 w4 hL).mono fun e W' ⟨he, bel⟩ => ?_
  subst he
  exact ⟨_, rfl, _, _, _, [], _, [], hW', trodAll_mk1 (shut_bool Tryz.underlying4 _), (trodAll_cons_mk (Below.trod laidOut (by kernel_rfl) (of_decide_eq_true (by kernel_rfl)) k0 bel lt0) (trodAll_cons_mk (Below.trod laidOut (by kernel_rfl) (of_decide_eq_true (by kernel_rfl)) k1 bel lt1) (trodAll_cons_mk (Below.trod laidOut (by kernel_rfl) (of_decide_eq_true (by kernel_rfl)) kk2 bel lt2) (trodAll_cons_mk (shut_int Tryz.underlying3 w3) (trodAll_cons_mk (Below.trod laidOut (by kernel_rfl) (of_decide_eq_true (by kernel_rfl)) k4 bel lt4) trodAll_mk0))))), rfl, bel.frame _, fun h => by cases h⟩
theorem over : Rows.blockSealsRow.holds Tryz.pinned (OpenSpec.ofChange Rows.blockSealsSpec) :=
  OpenClaim.holds_of_wide 3 Tryz.f3 rfl rfl rfl rfl rfl rfl rfl ⟨rfl, rfl, rfl, rfl, rfl⟩ rfl rfl rfl rfl rfl (by kernel_rfl) Tryz.func3 (by kernel_rfl)
    (of_decide_eq_true (by kernel_rfl)) (by unfold Func.isWrapper; first | (rw [if_pos (by decide +kernel)]; kernel_rfl) | (rw [if_neg (by decide +kernel)]; exact ⟨rfl, rfl⟩))
    (fun os started H enc _ => lifted os started H enc)
theorem proved : Rows.BlockSealsCardSaid :=
  Claim7.holds_tied_plain_at .later [] [.widerDeep, .data, .data, .data] true (true, "4a917432fcacacb367004d356b5969ecebaa18f42879a84b643d3d5536a92010") false
    over (fun _ h => by cases h) (by kernel_rfl) (fun _ h => by cases h) blockSeals_row_tie rfl ⟨rfl, rfl⟩ (by kernel_rfl) rfl
    (fun f fn hf hfn => by
      obtain rfl : f = 3 := Option.some.inj ((show Tryz.prog.funcNamed "domino/dominolaw10.BlockSeals" = some 3 by kernel_rfl).symm.trans hf) |>.symm
      obtain rfl : fn = Tryz.f3 := (Option.some.inj (Tryz.func3.symm.trans hfn)).symm
      exact ⟨by kernel_rfl, fun j t ht => by
        rw [Tryz.params3] at ht
        have hm : t ∈ [22, 25, 26, 3, 27] := by simpa using Array.mem_of_getElem? ht
        have hall : ([22, 25, 26, 3, 27].all fun u => !Tryz.prog.wantsStandIn u) = true := by kernel_rfl
        exact (show Tryz.prog.wantsStandIn t = false by simpa using List.all_eq_true.1 hall t hm)⟩)
    (by kernel_rfl)
#print axioms proved
end Go.Proofs.YtjelacblnjbfgaaGreatDoor.blockSeals
