/-
  The law BlockPlaces of package dominolaw10 returns true for every job, place, other attempt, index, and list of records: what is sealed with another attempt, or at another index, is of the same length, and is opened at its own place as the same records.
-/
import Derived.Test.YtjelacblnjbfgaaDoorRows
import Derived.Test.YtjelacblnjbfgaaDoorCards
import Derived.Test.YtjelacblnjbfgaaDoorTie
import Derived.SevenTiedAt
import Derived.WalkKit
import Derived.ProofKit
import Derived.OpenShut
import Derived.ShutString
import Derived.ChangeOld
import Derived.Below
import Derived.LaidMore
import Derived.Stop.Joined
import Derived.Test.YtjelacblnjbfgaaDoorB21
import Derived.Test.YtjelacblnjbfgaaDoorB7
namespace Go.Proofs.YtjelacblnjbfgaaDoor.blockPlaces
open Go.ChangeShapes Go.WideShapes Go.ChangeAt Go.RowKit
open Go.ChangeMaps (open_string shut_string)
open Go.Shelf Go.Proofs.YtjelacblnjbfgaaDoor Mem Help Go.Proofs.YtjelacblnjbfgaaDoor.Sum Po Ky Go.Proofs.YtjelacblnjbfgaaDoor.Bit Held Rc Rs
theorem own : ownKnob Tryd.prog.godebug = none := by kernel_rfl
theorem laidOut : laidOutB Tryd.prog = true := by kernel_rfl
def laidList : List (String × DataW Unit) := [("domino/chacha.start", Rows.laid_domino_chacha_start), ("domino/poly.kept", Rows.laid_domino_poly_kept), ("domino/sha.start", Rows.laid_domino_sha_start), ("domino/sha.words", Rows.laid_domino_sha_words)]
attribute [local irreducible] wpList Calls
set_option maxRecDepth 100000 in
set_option maxHeartbeats 16000000 in
theorem start (B0 : Nat) (job : List Int) (ph rr ad tm ix tm2 ix2 : Int) (A : Option Addr) (n c : Nat) (rs : List R) (u : World) (hL : LaidB B0 u) (hB0 : B0 ≤ u.heap.size) (hk : job.length = 32) (hkb : ∀ z ∈ job, (Lit.int .u8 z).wf = true)
    (hp : (Lit.int .i64 ph).wf = true) (hq : (Lit.int .i64 rr).wf = true) (ha : (Lit.int .i64 ad).wf = true) (ht : (Lit.int .u64 tm).wf = true) (hi : (Lit.int .i64 ix).wf = true) (ht2 : (Lit.int .u64 tm2).wf = true) (hi2 : (Lit.int .i64 ix2).wf = true)
    (hr : Recs u u.heap.size A n rs) (hc : n ≤ c) :
    Calls Tryd.prog 3 #[.agg (arr .u8 job), .agg #[.int .i64 ph, .int .i64 rr, .int .i64 ad, .int .u64 tm, .int .i64 ix], .int .u64 tm2, .int .i64 ix2, .slice A n c] u fun e u' => e = .returned (.bool true) ∧ Below u.heap.size u u' := by
  obtain ⟨p, hpe⟩ : ∃ p, min n 4 = p := ⟨_, rfl⟩
  obtain ⟨A3, hf1, hr3⟩ := recs_front hr (m := p) (by omega) hc
  have hps : p ≤ 4 := by omega
  have HMIN1 := Lib.hid (show (if (4 : Int) < (n : Int) then (4 : Int) else (n : Int)) = (p : Int) by split <;> omega)
  clear hpe hr
  generalize rs.take p = xs at hr3
  have hlx := hr3.1
  obtain ⟨bx, hbx⟩ : ∃ bx, blockS job ph rr ad tm ix xs 4 = bx := ⟨_, rfl⟩
  obtain ⟨bY, hbY⟩ : ∃ bY, blockS job ph rr ad tm2 ix2 xs 4 = bY := ⟨_, rfl⟩
  have HLX := Lib.hid (show bx.length = 144 by rw [← hbx]; exact blockS_length (by omega))
  have HLY := Lib.hid (show bY.length = 144 by rw [← hbY]; exact blockS_length (by omega))
  have HE1 := Lib.hid (show packE p 4 = 0 by rw [packE, if_neg (by decide), if_neg (by omega)])
  have HB1 := Lib.hid (show sealB job ph rr ad tm ix xs 4 = bx by rw [sealB, if_pos ⟨by decide, by omega⟩]; exact hbx)
  have HB2 := Lib.hid (show sealB job ph rr ad tm2 ix2 xs 4 = bY by rw [sealB, if_pos ⟨by decide, by omega⟩]; exact hbY)
  have HOW := open_own job ph rr ad tm ix hr3.2.1 (sz := 4) (by omega) (by omega) (by omega)
  have HOV := open_own job ph rr ad tm2 ix2 hr3.2.1 (sz := 4) (by omega) (by omega) (by omega)
  rw [hbx] at HOW
  rw [hbY] at HOV
  have HO1 := Lib.hid (show blockOE job ph rr ad tm ix 4 bx = 0 from HOW.1)
  have HO2 := Lib.hid (show blockOR job ph rr ad tm ix 4 bx = (pad xs 4).map R.zd from HOW.2)
  have HO3 := Lib.hid (show blockOE job ph rr ad tm2 ix2 4 bY = 0 from HOV.1)
  have HO4 := Lib.hid (show blockOR job ph rr ad tm2 ix2 4 bY = (pad xs 4).map R.zd from HOV.2)
  have HWZ := Lib.hid (show ∀ r ∈ (pad xs 4).map R.zd, r.wf by rw [← HO2.out]; exact blockOR_wf _ _ _ _ _ _ _ _)
  have HLZ := Lib.hid (show ((pad xs 4).map R.zd).length = 4 by rw [List.length_map, Rs.pad_length (by omega)])
  generalize (pad xs 4).map R.zd = zs at HO2 HO4 HWZ HLZ
  clear HOW HOV hbx hbY
  go_enter Tryd.func3, Tryd.ntmps3
  go_wp2_with (first
    | (refine wpList_box_Row (w := u) rfl 22 _ rfl .u8 job rfl hkb ?_; intro u1 r1 g1 z1)
    | (refine wpList_box_blk (w := u1) rfl 25 _ rfl #[.int .i64 ph, .int .i64 rr, .int .i64 ad, .int .u64 tm, .int .i64 ix] rfl ?_; intro u2 p1 g2 z2; have r1 := r1.grown g2 (by simp))
    | (refine wpList_run (w := u2) rfl (v := .int .i64 (p : Int)) (Held.y_min (S := fun _ => True) rfl rfl rfl HMIN1.out _ trivial) ?_)
    | (refine wpList_run (w := u2) rfl (v := .slice A3 p c) (Held.y_slice (S := fun _ => True) rfl hf1 _ trivial) ?_)
    | (refine wpList_load_blk (w := u2) rfl 25 _ rfl u1.heap.size 5 rfl 25 _ p1 _ Tryd.underlying25 rfl (by kernel_rfl) rfl ?_)
    | (refine wpList_alloc_blk (w := u2) rfl 25 rfl #[.int .i64 0, .int .i64 0, .int .i64 0, .int .u64 0, .int .i64 0] (by kernel_rfl) ?_; intro u3 p2 g3 z3; have r1 := r1.grown g3 (by simp); have p1 := p1.grown g3 (by simp))
    | (refine wpList_store_blk (w := u3) rfl 25 _ _ rfl u2.heap.size 5 rfl 25 _ #[.int .i64 ph, .int .i64 rr, .int .i64 ad, .int .u64 tm, .int .i64 ix] rfl p2 (by kernel_rfl) rfl rfl (by kernel_rfl) ?_; intro u4 p2 g4 z4; have lr := r1.lt; have lp := p1.lt; have r1 := r1.grown g4 (by intro e; injection e with e; have := g1.size; have := g2.size; have := z2.out; have := z1.out; omega); have p1 := p1.grown g4 (by intro e; injection e with e; have := z2.out; omega))
    | (refine wpList_run (w := u4) rfl (v := .pointer (some ⟨u2.heap.size, 3, none⟩)) (Held.y_field (S := fun _ => True) (k := 3) (s := 0) rfl rfl Tryd.underlying25 rfl (by kernel_rfl) rfl _ trivial) ?_)
    | (refine wpList_run (w := u5) rfl (v := .pointer (some ⟨u2.heap.size, 4, none⟩)) (Held.y_field (S := fun _ => True) (k := 4) (s := 0) rfl rfl Tryd.underlying25 rfl (by kernel_rfl) rfl _ trivial) ?_)
    | (refine wpList_store_field (w := u4) rfl 23 _ _ rfl u2.heap.size 3 rfl 25 _ (.int .u64 tm2) rfl p2 (by simp) (by kernel_rfl) rfl rfl ?_; intro u5 p2 g5 z5; have r1 := r1.grown g5 (by intro e; injection e with e; have := z2.out; have := z1.out; omega); have p1 := p1.grown g5 (by intro e; injection e with e; have := z2.out; omega))
    | (refine wpList_store_field (w := u5) rfl 3 _ _ rfl u2.heap.size 4 rfl 25 _ (.int .i64 ix2) rfl p2 (by simp) (by kernel_rfl) rfl rfl ?_; intro u6 p2 g6 z6; have p2 : Blk u6 u2.heap.size 25 #[.int .i64 ph, .int .i64 rr, .int .i64 ad, .int .u64 tm2, .int .i64 ix2] := p2; have r1 := r1.grown g6 (by intro e; injection e with e; have := z2.out; have := z1.out; omega); have p1 := p1.grown g6 (by intro e; injection e with e; have := z2.out; omega))
    | (refine wpList_load_Row (w := u6) rfl 22 _ rfl u.heap.size rfl 22 .u8 _ r1 32 5 Tryd.underlying22 (by kernel_rfl) hk ?_)
    | (refine wpList_load_blk (w := u6) rfl 25 _ rfl u1.heap.size 5 rfl 25 _ p1 _ Tryd.underlying25 rfl (by kernel_rfl) rfl ?_))
  have b6 : Below u.heap.size u u6 := by
    have s1 := g1.size
    have s2 := g2.size
    have s3 := g3.size
    have s4 := g4.size
    have s5 := g5.size
    have c2 : Below u.heap.size u u2 := ((Below.refl _ u).grown g1 (Nat.le_refl _) (by simp)).grown g2 s1 (by simp)
    exact (((c2.grown g3 c2.size (by simp)).grown g4 (by omega) (fun r e => by cases e; omega)).grown g5 (by omega) (fun r e => by cases e; omega)).grown g6 (by omega) (fun r e => by cases e; omega)
  clear g1 g2 g3 g4 g5 g6 z1 z2 z3 z4 z5 z6 lr lp hf1 HMIN1
  refine (seals_any B0 job hk hkb ph rr ad tm ix hp hq ha ht hi u6.heap.size A3 p c xs 4 u6 (hL.below (b6.mono hB0)) (Nat.le_trans hB0 b6.size) ((hr3.below b6).more b6.size) (Nat.le_refl _)).mono ?_
  rintro e u7 ⟨A7, m7, c7, rfl, h7, o7, b7⟩
  rw [HE1.out]
  rw [HB1.out] at h7 o7
  obtain rfl : 144 = m7 := by rw [← HLX.out, h7.out]
  have r1 := r1.below b7 r1.lt
  have p1 := p1.after b7
  have p2 := p2.after b7
  have b7 := b6.trans (b7.mono b6.size)
  clear b6
  go_wp2_with (first
    | (refine wpList_load_Row (w := u7) rfl 22 _ rfl u.heap.size rfl 22 .u8 _ r1 32 5 Tryd.underlying22 (by kernel_rfl) hk ?_)
    | (refine wpList_load_blk (w := u7) rfl 25 _ rfl u2.heap.size 5 rfl 25 _ p2 _ Tryd.underlying25 rfl (by kernel_rfl) rfl ?_))
  refine (seals_any B0 job hk hkb ph rr ad tm2 ix2 hp hq ha ht2 hi2 u7.heap.size A3 p c xs 4 u7 (hL.below (b7.mono hB0)) (Nat.le_trans hB0 b7.size) ((hr3.below b7).more b7.size) (Nat.le_refl _)).mono ?_
  rintro e u8 ⟨A8, m8, c8, rfl, h8, o8, b8⟩
  rw [HE1.out]
  rw [HB2.out] at h8 o8
  obtain rfl : 144 = m8 := by rw [← HLY.out, h8.out]
  have r1 := r1.below b8 r1.lt
  have p1 := p1.after b8
  have p2 := p2.after b8
  have o7 := o7.below b8
  have b8 := b7.trans (b8.mono b7.size)
  clear b7
  have a7 := Ae.arg_of_own o7 HLX.out
  have a8 := Ae.arg_of_own o8 HLY.out
  clear o7 o8
  go_wp2_with (first
    | (refine wpList_load_Row (w := u8) rfl 22 _ rfl u.heap.size rfl 22 .u8 _ r1 32 5 Tryd.underlying22 (by kernel_rfl) hk ?_)
    | (refine wpList_load_blk (w := u8) rfl 25 _ rfl u1.heap.size 5 rfl 25 _ p1 _ Tryd.underlying25 rfl (by kernel_rfl) rfl ?_))
  refine (opens_any B0 job hk hkb ph rr ad tm ix hp hq ha ht hi u8.heap.size A7 144 c7 bx 4 u8 (hL.below (b8.mono hB0)) (Nat.le_trans hB0 b8.size) a7.ints (Nat.le_refl _) a7.2.2.1 a7.2.2.2.1 a7.2.2.2.2 (by omega)).mono ?_
  rintro e u9 ⟨A9, n9, c9, rfl, o9, b9⟩
  rw [HO1.out]
  rw [HO2.out] at o9
  have i8 := a8.ints.below b9
  have HS9 := Lib.hid b9.size
  have r1 := r1.below b9 r1.lt
  have p1 := p1.after b9
  have p2 := p2.after b9
  have b9 := b8.trans (b9.mono b8.size)
  clear b8
  go_wp2_with (first
    | (refine wpList_load_Row (w := u9) rfl 22 _ rfl u.heap.size rfl 22 .u8 _ r1 32 5 Tryd.underlying22 (by kernel_rfl) hk ?_)
    | (refine wpList_load_blk (w := u9) rfl 25 _ rfl u2.heap.size 5 rfl 25 _ p2 _ Tryd.underlying25 rfl (by kernel_rfl) rfl ?_))
  refine (opens_any B0 job hk hkb ph rr ad tm2 ix2 hp hq ha ht2 hi2 u8.heap.size A8 144 c8 bY 4 u9 (hL.below (b9.mono hB0)) (Nat.le_trans hB0 b9.size) i8 HS9.out a8.2.2.1 a8.2.2.2.1 a8.2.2.2.2 (by omega)).mono ?_
  rintro e u10 ⟨A10, n10, c10, rfl, o10, b10⟩
  rw [HO3.out]
  rw [HO4.out] at o10
  have o9 := o9.below b10
  have b10 := b9.trans (b10.mono b9.size)
  clear b9 r1 p1 p2 i8 a7 a8
  go_wp2_with fail
  refine (awake10_any u10).mono ?_
  rintro e u11 ⟨rfl, b11⟩
  have h9 := (o9.below b11).recs HWZ.out
  have h10 := (o10.below b11).recs HWZ.out
  have b11 := b10.trans (b11.mono b10.size)
  clear b10 o9 o10
  go_wp2_with fail
  refine (plain_any u11.heap.size u11.heap.size A9 A10 n9 n10 c9 c10 _ _ u11 h9 h10 (Nat.le_refl _) (Nat.le_refl _) (by have := h9.1; have := HLZ.out; omega) (by have := h10.1; have := HLZ.out; omega)).mono ?_
  rintro e u12 ⟨rfl, b12⟩
  rw [decide_eq_true (rfl : zs = zs)]
  have b12 := b11.trans (b12.mono b11.size)
  clear h9 h10 b11
  go_wp2_with fail
  go_ret
  exact ⟨rfl, b12⟩
theorem walk (z0 : List Int) (ph1 rr1 ad1 at1 ix1 : Int) (a2 : Int) (a3 : Int) (A4 : Option Addr) (m4 c4 : Nat) (rs4 : List Rs.R) (w : World) (zl0 : z0.length = 32) (zw0 : ∀ z ∈ z0, (Lit.int .u8 z).wf = true) (wp1 : (Lit.int .i64 ph1).wf = true) (wr1 : (Lit.int .i64 rr1).wf = true) (wa1 : (Lit.int .i64 ad1).wf = true) (wt1 : (Lit.int .u64 at1).wf = true) (wi1 : (Lit.int .i64 ix1).wf = true) (w2 : (Lit.int .u64 a2).wf = true) (w3 : (Lit.int .i64 a3).wf = true) (hr4 : Rs.Recs w w.heap.size A4 m4 rs4) (hc4 : m4 ≤ c4 ∧ c4 ≤ maxLen) (hL : laidMetH Tryd.prog laidList w) :
    Calls Tryd.prog 3 #[.agg (Mem.arr .u8 z0), .agg #[.int .i64 ph1, .int .i64 rr1, .int .i64 ad1, .int .u64 at1, .int .i64 ix1], .int .u64 a2, .int .i64 a3, .slice A4 m4 c4] w fun e w' => e = .returned (.bool true) ∧ Below w.heap.size w w' := by
  exact start w.heap.size z0 ph1 rr1 ad1 at1 ix1 a2 a3 A4 m4 c4 rs4 w (laid_of hL) (Nat.le_refl _) zl0 zw0 wp1 wr1 wa1 wt1 wi1 w2 w3 hr4 hc4.1
set_option maxRecDepth 100000 in
theorem door_met (os : Os) (args : Array Value) : laidMetH Tryd.prog laidList ((World.doorLaid Tryd.prog 400 os).forCall (fun _ _ => 0) ⟨#[], args, []⟩).memory :=
  laidMetH_of_parts3 (fuel := 8) (laidMet_of_run' 8 (by kernel_rfl) (by kernel_rfl)) (by kernel_rfl) (by kernel_rfl)
set_option maxRecDepth 100000 in
theorem lifted (os : Os) (started : os.Started) (H : Type) (enc : TypeId × Value → H) :
    ReturnsInHanded {} Tryd.checked os 3 .any (fun w args => (Rows.blockPlacesSpec.pre enc Tryd.prog Tryd.f3 [] false w args ∧ laidMetH Tryd.prog laidList w) ∧ sizedMet enc Tryd.prog Tryd.f3 (OpenSpec.ofChange Rows.blockPlacesSpec) false w args)
      (Rows.blockPlacesSpec.post enc Tryd.prog Tryd.f3 false true false false) := by
  refine returnsInHanded_of_change_and (C := Tryd.checked) (X := fun w _ => laidMetH Tryd.prog laidList w) (fun _ _ _ hh h => h.of_heap hh) own started (by kernel_rfl) Tryd.func3
    (ChangeSpec.witness_shaped (enc := enc) (C := Tryd.checked) (os := os) (X := fun w _ => laidMetH Tryd.prog laidList w) false (World.doorLaid Tryd.prog 400 os) #[.agg (Array.replicate 32 (.int .u8 0)), .agg #[.int .i64 0, .int .i64 0, .int .i64 0, .int .u64 0, .int .i64 0], .int .u64 0, .int .i64 0, .slice none 0 0] 8 rfl (World.shaped_of_RefB (by kernel_rfl) (by kernel_rfl)) (by kernel_rfl) (by kernel_rfl) (by kernel_rfl) (door_met os _)) ?_
  intro W base args ds gs before hval0 hW _ _ hL _
  have hval : ∀ (j : Nat) t v, Tryd.f3.params[j]? = some t → args[j]? = some v → Value.okWide Tryd.prog W .any base t v := hval0
  have hW' := hW
  obtain ⟨p, q, hA0, hV, rfl, hfz, hnd⟩ := hW
  have hA : DataW.TrodAll enc Tryd.prog W 0 (fun _ => true) true Tryd.f3.params.toList args.toList ds p := hA0
  rw [Tryd.params3] at hA hval
  obtain ⟨v0, vs0, d0, ds0, p0, q0, hargs, rfl, rfl, h0, r0⟩ := trodAll_cons hA
  obtain ⟨v1, vs1, d1, ds1, p1, q1, rfl, rfl, rfl, h1, r1⟩ := trodAll_cons r0
  obtain ⟨v2, vs2, d2, ds2, p2, q2, rfl, rfl, rfl, h2, r2⟩ := trodAll_cons r1
  obtain ⟨v3, vs3, d3, ds3, p3, q3, rfl, rfl, rfl, h3, r3⟩ := trodAll_cons r2
  obtain ⟨v4, vs4, d4, ds4, p4, q4, rfl, rfl, rfl, h4, r4⟩ := trodAll_cons r3
  obtain ⟨rfl, rfl, rfl⟩ := trodAll_nil r4
  obtain rfl : args = #[v0, v1, v2, v3, v4] := by cases args; simp_all
  obtain ⟨rfl, rfl⟩ := trodVars_none hV
  have k0 := h0
  have lt0 : ∀ x ∈ p0, x.block < W.heap.size := by obtain ⟨m, hm⟩ := k0; exact DataW.trod_lt m _ _ _ hm
  obtain ⟨z0, rfl, zl0, zw0⟩ := Mem.open_arr Tryd.underlying22 Tryd.underlying5 (by kernel_rfl) (by kernel_rfl) (hval 0 22 v0 rfl rfl) h0
  have k1 := h1
  have lt1 : ∀ x ∈ p1, x.block < W.heap.size := by obtain ⟨m, hm⟩ := k1; exact DataW.trod_lt m _ _ _ hm
  obtain ⟨ph1, rr1, ad1, at1, ix1, rfl, wp1, wr1, wa1, wt1, wi1⟩ := Ky.open_place (hval 1 25 v1 rfl rfl) h1
  obtain ⟨a2, rfl, rfl, rfl, w2⟩ := open_int Tryd.underlying23 (hval 2 23 v2 rfl rfl) h2
  obtain ⟨a3, rfl, rfl, rfl, w3⟩ := open_int Tryd.underlying3 (hval 3 3 v3 rfl rfl) h3
  obtain ⟨A4, m4, c4, rfl⟩ := okWide_slice Tryd.underlying26 (hval 4 26 v4 rfl rfl)
  have kk4 := h4
  have lt4 : ∀ x ∈ p4, x.block < W.heap.size := by obtain ⟨m, hm⟩ := kk4; exact DataW.trod_lt m _ _ _ hm
  obtain ⟨rs4, hr4, hc4⟩ := Rs.open_recs h4
  clear hA0 hval0
  refine (walk z0 ph1 rr1 ad1 at1 ix1 a2 a3 A4 m4 c4 rs4 W zl0 zw0 wp1 wr1 wa1 wt1 wi1 w2 w3 hr4 hc4 hL).mono fun e W' ⟨he, bel⟩ => ?_
  subst he
  exact ⟨_, rfl, _, _, _, [], _, [], hW', trodAll_mk1 (shut_bool Tryd.underlying4 _), (trodAll_cons_mk (Below.trod laidOut (by kernel_rfl) (of_decide_eq_true (by kernel_rfl)) k0 bel lt0) (trodAll_cons_mk (Below.trod laidOut (by kernel_rfl) (of_decide_eq_true (by kernel_rfl)) k1 bel lt1) (trodAll_cons_mk (shut_int Tryd.underlying23 w2) (trodAll_cons_mk (shut_int Tryd.underlying3 w3) (trodAll_cons_mk (Below.trod laidOut (by kernel_rfl) (of_decide_eq_true (by kernel_rfl)) kk4 bel lt4) trodAll_mk0))))), rfl, bel.frame _, fun h => by cases h⟩
theorem over : Rows.blockPlacesRow.holds Tryd.pinned (OpenSpec.ofChange Rows.blockPlacesSpec) :=
  OpenClaim.holds_of_wide 3 Tryd.f3 rfl rfl rfl rfl rfl rfl rfl ⟨rfl, rfl, rfl, rfl, rfl⟩ rfl rfl rfl rfl rfl (by kernel_rfl) Tryd.func3 (by kernel_rfl)
    (of_decide_eq_true (by kernel_rfl)) (by unfold Func.isWrapper; first | (rw [if_pos (by decide +kernel)]; kernel_rfl) | (rw [if_neg (by decide +kernel)]; exact ⟨rfl, rfl⟩))
    (fun os started H enc _ => lifted os started H enc)
theorem proved : Rows.BlockPlacesCardSaid :=
  Claim7.holds_tied_plain_at .later [] [.widerDeep, .data, .data, .data] true (true, "6885830a7f7ade2cabb0ecf3bc236fabbbf4aa62805db451c2e8e7c7b045780e") false
    over (fun _ h => by cases h) (by kernel_rfl) (fun _ h => by cases h) blockPlaces_row_tie rfl ⟨rfl, rfl⟩ (by kernel_rfl) rfl
    (fun f fn hf hfn => by
      obtain rfl : f = 3 := Option.some.inj ((show Tryd.prog.funcNamed "domino/dominolaw10.BlockPlaces" = some 3 by kernel_rfl).symm.trans hf) |>.symm
      obtain rfl : fn = Tryd.f3 := (Option.some.inj (Tryd.func3.symm.trans hfn)).symm
      exact ⟨by kernel_rfl, fun j t ht => by
        rw [Tryd.params3] at ht
        have hm : t ∈ [22, 25, 23, 3, 26] := by simpa using Array.mem_of_getElem? ht
        have hall : ([22, 25, 23, 3, 26].all fun u => !Tryd.prog.wantsStandIn u) = true := by kernel_rfl
        exact (show Tryd.prog.wantsStandIn t = false by simpa using List.all_eq_true.1 hall t hm)⟩)
    (by kernel_rfl)
#print axioms proved
end Go.Proofs.YtjelacblnjbfgaaDoor.blockPlaces
