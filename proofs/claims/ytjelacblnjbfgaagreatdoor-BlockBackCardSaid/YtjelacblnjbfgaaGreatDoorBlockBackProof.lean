/-
  The law BlockBack of package dominolaw10 returns true for every job, two places, two lists of records, and every size: what is sealed is opened, with dead ones behind; blocks of one size are of one length; at another place it is opened as the document's own.
-/
import Derived.Test.YtjelacblnjbfgaaGreatDoorRows
import Derived.Test.YtjelacblnjbfgaaGreatDoorCards
import Derived.Test.YtjelacblnjbfgaaGreatDoorTie
import Derived.SevenTiedAt
import Derived.WalkKit
import Derived.ProofKit
import Derived.OpenShut
import Derived.ShutString
import Derived.ChangeOld
import Derived.Below
import Derived.LaidMore
import Derived.Stop.Joined
import Derived.Test.YtjelacblnjbfgaaGreatDoorB29
import Derived.Test.YtjelacblnjbfgaaGreatDoorB8
namespace Go.Proofs.YtjelacblnjbfgaaGreatDoor.blockBack
open Go.ChangeShapes Go.WideShapes Go.ChangeAt Go.RowKit
open Go.ChangeMaps (open_string shut_string)
open Go.Shelf Go.Proofs.YtjelacblnjbfgaaGreatDoor Mem Help Go.Proofs.YtjelacblnjbfgaaGreatDoor.Sum Po Ky Go.Proofs.YtjelacblnjbfgaaGreatDoor.Bit Held Rc Rs
theorem own : ownKnob Tryz.prog.godebug = none := by kernel_rfl
theorem laidOut : laidOutB Tryz.prog = true := by kernel_rfl
def laidList : List (String × DataW Unit) := [("domino/chacha.start", Rows.laid_domino_chacha_start), ("domino/poly.kept", Rows.laid_domino_poly_kept), ("domino/sha.start", Rows.laid_domino_sha_start), ("domino/sha.words", Rows.laid_domino_sha_words)]
attribute [local irreducible] wpList Calls
set_option maxRecDepth 100000 in
set_option maxHeartbeats 16000000 in
theorem start (B0 : Nat) (job : List Int) (ph rr ad tm ix ph2 rr2 ad2 tm2 ix2 : Int) (A : Option Addr) (n c : Nat) (rs : List R) (A2 : Option Addr) (n2 c2 : Nat) (rs2 : List R) (z : Int) (u : World) (hL : LaidB B0 u) (hB0 : B0 ≤ u.heap.size) (hk : job.length = 32) (hkb : ∀ z ∈ job, (Lit.int .u8 z).wf = true)
    (hp : (Lit.int .i64 ph).wf = true) (hq : (Lit.int .i64 rr).wf = true) (ha : (Lit.int .i64 ad).wf = true) (ht : (Lit.int .u64 tm).wf = true) (hi : (Lit.int .i64 ix).wf = true) (hp2 : (Lit.int .i64 ph2).wf = true) (hq2 : (Lit.int .i64 rr2).wf = true) (ha2 : (Lit.int .i64 ad2).wf = true) (ht2 : (Lit.int .u64 tm2).wf = true) (hi2 : (Lit.int .i64 ix2).wf = true)
    (hr : Recs u u.heap.size A n rs) (hc : n ≤ c) (hr2 : Recs u u.heap.size A2 n2 rs2) (hc2 : n2 ≤ c2) :
    Calls Tryz.prog 4 #[.agg (arr .u8 job), .agg #[.int .i64 ph, .int .i64 rr, .int .i64 ad, .int .u64 tm, .int .i64 ix], .agg #[.int .i64 ph2, .int .i64 rr2, .int .i64 ad2, .int .u64 tm2, .int .i64 ix2], .slice A n c, .slice A2 n2 c2, .int .i64 z] u fun e u' => e = .returned (.bool true) ∧ Below u.heap.size u u' := by
  obtain ⟨m8, hm8, hm8'⟩ : ∃ m8 : Nat, wrap64 ((IntKind.u64.wrap z).tmod 8) = (m8 : Int) ∧ m8 < 8 := by
    have hu0 : 0 ≤ IntKind.u64.wrap z := by rw [IntKind.wrap_u64]; omega
    have h1 : 0 ≤ IntKind.u64.wrap z % 8 := Int.emod_nonneg _ (by omega)
    have h2 : IntKind.u64.wrap z % 8 < 8 := Int.emod_lt_of_pos _ (by omega)
    rw [Int.tmod_eq_emod_of_nonneg hu0]
    exact ⟨(IntKind.u64.wrap z % 8).toNat, by unfold wrap64; omega, by omega⟩
  obtain ⟨sz, hsz⟩ : ∃ sz, 1 + m8 = sz := ⟨_, rfl⟩
  have hszi : (1 : Int) + (m8 : Int) = (sz : Int) := by omega
  have hs1 : 1 ≤ sz := by omega
  have hs8 : sz ≤ 8 := by omega
  have hms : mayS (sz : Int) = true := by simp [mayS]; omega
  clear hsz
  obtain ⟨p, hpe⟩ : ∃ p, min n sz = p := ⟨_, rfl⟩
  obtain ⟨q, hqe⟩ : ∃ q, min n2 sz = q := ⟨_, rfl⟩
  obtain ⟨A3, hf1, hr3⟩ := recs_front hr (m := p) (by omega) hc
  obtain ⟨A4, hf2, hr4⟩ := recs_front hr2 (m := q) (by omega) hc2
  have hps : p ≤ sz := by omega
  have hqs : q ≤ sz := by omega
  have HMIN1 := Lib.hid (show (if (sz : Int) < (n : Int) then (sz : Int) else (n : Int)) = (p : Int) by split <;> omega)
  have HMIN2 := Lib.hid (show (if (sz : Int) < (n2 : Int) then (sz : Int) else (n2 : Int)) = (q : Int) by split <;> omega)
  clear hpe hqe hr hr2
  generalize rs.take p = xs at hr3
  generalize rs2.take q = ys at hr4
  have hlx := hr3.1
  have hly := hr4.1
  obtain ⟨bx, hbx⟩ : ∃ bx, blockS job ph rr ad tm ix xs sz = bx := ⟨_, rfl⟩
  obtain ⟨bY, hbY⟩ : ∃ bY, blockS job ph rr ad tm ix ys sz = bY := ⟨_, rfl⟩
  have HLX := Lib.hid (show bx.length = 32 * sz + 16 by rw [← hbx]; exact blockS_length (by omega))
  have HLY := Lib.hid (show bY.length = 32 * sz + 16 by rw [← hbY]; exact blockS_length (by omega))
  have HE1 := Lib.hid (show packE p (sz : Int) = 0 by rw [packE, if_neg (by simp [hms]), if_neg (by omega)])
  have HE2 := Lib.hid (show packE q (sz : Int) = 0 by rw [packE, if_neg (by simp [hms]), if_neg (by omega)])
  have HB1 := Lib.hid (show sealB job ph rr ad tm ix xs (sz : Int) = bx by rw [sealB, if_pos ⟨hms, by omega⟩, Int.toNat_natCast]; exact hbx)
  have HB2 := Lib.hid (show sealB job ph rr ad tm ix ys (sz : Int) = bY by rw [sealB, if_pos ⟨hms, by omega⟩, Int.toNat_natCast]; exact hbY)
  have HOW := open_own job ph rr ad tm ix hr3.2.1 hs1 hs8 (by omega)
  rw [hbx] at HOW
  have HO1 := Lib.hid HOW.1
  have HO2 := Lib.hid HOW.2
  have HWANT := Lib.hid (fun i (hi : i < sz) => want_eq (rs := xs) hi)
  have HWZ := Lib.hid (show ∀ r ∈ (pad xs sz).map R.zd, r.wf by rw [← HO2.out]; exact blockOR_wf _ _ _ _ _ _ _ _)
  have HLZ := Lib.hid (show ((pad xs sz).map R.zd).length = sz by rw [List.length_map, Rs.pad_length (by omega)])
  generalize (pad xs sz).map R.zd = zs at HO2 HWANT HWZ HLZ
  obtain ⟨F, hF⟩ : ∃ F, blockOE job ph2 rr2 ad2 tm2 ix2 (sz : Int) bx = F := ⟨_, rfl⟩
  have HF := Lib.hid hF
  obtain ⟨N, hN⟩ : ∃ N, 32 * sz + 16 = N := ⟨_, rfl⟩
  rw [hN] at HLX HLY
  have HSZ := Lib.hid (show sizeV (sz : Int) = (N : Int) by unfold sizeV; omega)
  have hNle : N ≤ 65552 := by omega
  clear hF HOW hbx hbY hN
  go_enter Tryz.func4, Tryz.ntmps4
  go_wp2_with (first
    | (refine wpList_box_Row (w := u) rfl 22 _ rfl .u8 job rfl hkb ?_; intro u1 r1 g1 z1)
    | (refine wpList_box_blk (w := u1) rfl 25 _ rfl #[.int .i64 ph, .int .i64 rr, .int .i64 ad, .int .u64 tm, .int .i64 ix] rfl ?_; intro u2 p1 g2 z2; have r1 := r1.grown g2 (by simp))
    | (refine wpList_box_blk (w := u2) rfl 25 _ rfl #[.int .i64 ph2, .int .i64 rr2, .int .i64 ad2, .int .u64 tm2, .int .i64 ix2] rfl ?_; intro u3 p2 g3 z3; have r1 := r1.grown g3 (by simp); have p1 := p1.grown g3 (by simp)))
  have b3 : Below u.heap.size u u3 := (((Below.refl _ u).grown g1 (Nat.le_refl _) (by simp)).grown g2 g1.size (by simp)).grown g3 (Nat.le_trans g1.size g2.size) (by simp)
  clear g1 g2 g3 z1 z2 z3
  refine wp_region_held (S := fun _ => True) (by kernel_rfl) ?_
  change wpAnyH _ _ _ _ _ _ _ _ u3.drew
  refine Held.tk (v := .slice A n c) 0 (some 30) rfl (Held.y_move rfl rfl) trivial ?_
  simp only [Act.put, Z1, Z2, Z3]
  refine Held.tk (v := .slice A n c) 1 (some 31) rfl (Held.y_move rfl rfl) trivial ?_
  simp only [Act.put, Z1, Z2, Z3]
  refine Held.tk (v := .int .i64 (n : Int)) 2 (some 32) rfl (Held.y_len rfl rfl (by kernel_rfl)) trivial ?_
  simp only [Act.put, Z1, Z2, Z3]
  refine Held.tk (v := .int .i64 (sz : Int)) 3 (some 33) rfl (Held.y_move rfl rfl) trivial ?_
  simp only [Act.put, Z1, Z2, Z3]
  refine Held.tk (v := .int .i64 (p : Int)) 4 (some 34) rfl (Held.y_min rfl rfl rfl HMIN1.out) trivial ?_
  simp only [Act.put, Z1, Z2, Z3]
  refine Held.tk (v := .slice A3 p c) 5 (some 35) rfl (Held.y_slice rfl hf1) trivial ?_
  simp only [Act.put, Z1, Z2, Z3]
  refine Held.tk (v := .slice A2 n2 c2) 6 (some 36) rfl (Held.y_move rfl rfl) trivial ?_
  simp only [Act.put, Z1, Z2, Z3]
  refine Held.tk (v := .slice A2 n2 c2) 7 (some 37) rfl (Held.y_move rfl rfl) trivial ?_
  simp only [Act.put, Z1, Z2, Z3]
  refine Held.tk (v := .int .i64 (n2 : Int)) 8 (some 38) rfl (Held.y_len rfl rfl (by kernel_rfl)) trivial ?_
  simp only [Act.put, Z1, Z2, Z3]
  refine Held.tk (v := .int .i64 (sz : Int)) 9 (some 39) rfl (Held.y_move rfl rfl) trivial ?_
  simp only [Act.put, Z1, Z2, Z3]
  refine Held.tk (v := .int .i64 (q : Int)) 10 (some 40) rfl (Held.y_min rfl rfl rfl HMIN2.out) trivial ?_
  simp only [Act.put, Z1, Z2, Z3]
  refine Held.tk (v := .slice A4 q c2) 11 (some 41) rfl (Held.y_slice rfl hf2) trivial ?_
  simp only [Act.put, Z1, Z2, Z3]
  refine Held.tk (v := .slice A3 p c) 12 (some 3) rfl (Held.y_assign rfl rfl) trivial ?_
  simp only [Act.put, Z1, Z2, Z3]
  refine Held.tk (v := .slice A4 q c2) 13 (some 4) rfl (Held.y_assign rfl rfl) trivial ?_
  simp only [Act.put, Z1, Z2, Z3]
  refine wpAnyH_done (by kernel_rfl) ?_ _
  have r1 : Row u3.drew u.heap.size 22 .u8 job := r1
  have p1 := p1.drew
  have p2 := p2.drew
  have b3 := b3.drew
  generalize u3.drew = u4 at r1 p1 p2 b3 ⊢
  clear hf1 hf2 HMIN1 HMIN2 hm8
  go_wp2_with (first
    | (refine wpList_load_Row (w := u4) rfl 22 _ rfl u.heap.size rfl 22 .u8 _ r1 32 5 Tryz.underlying22 (by kernel_rfl) hk ?_)
    | (refine wpList_load_blk (w := u4) rfl 25 _ rfl u1.heap.size 5 rfl 25 _ p1 _ Tryz.underlying25 rfl (by kernel_rfl) rfl ?_))
  refine (seals_any B0 job hk hkb ph rr ad tm ix hp hq ha ht hi u4.heap.size A3 p c xs (sz : Int) u4 (hL.below (b3.mono hB0)) (Nat.le_trans hB0 b3.size) ((hr3.below b3).more b3.size) (Nat.le_refl _)).mono ?_
  rintro e u5 ⟨A5, m5, c5, rfl, h5, o5, b5⟩
  rw [HE1.out]
  rw [HB1.out] at h5 o5
  obtain rfl : N = m5 := by rw [← HLX.out, h5.out]
  have r1 := r1.below b5 r1.lt
  have p1 := p1.after b5
  have p2 := p2.after b5
  have b5 := b3.trans (b5.mono b3.size)
  clear b3
  go_wp2_with (first
    | (refine wpList_load_Row (w := u5) rfl 22 _ rfl u.heap.size rfl 22 .u8 _ r1 32 5 Tryz.underlying22 (by kernel_rfl) hk ?_)
    | (refine wpList_load_blk (w := u5) rfl 25 _ rfl u1.heap.size 5 rfl 25 _ p1 _ Tryz.underlying25 rfl (by kernel_rfl) rfl ?_))
  refine (seals_any B0 job hk hkb ph rr ad tm ix hp hq ha ht hi u5.heap.size A4 q c2 ys (sz : Int) u5 (hL.below (b5.mono hB0)) (Nat.le_trans hB0 b5.size) ((hr4.below b5).more b5.size) (Nat.le_refl _)).mono ?_
  rintro e u6 ⟨A6, m6, c6, rfl, h6, o6, b6⟩
  rw [HE2.out]
  rw [HB2.out] at h6 o6
  obtain rfl : N = m6 := by rw [← HLY.out, h6.out]
  have r1 := r1.below b6 r1.lt
  have p1 := p1.after b6
  have p2 := p2.after b6
  have o5 := o5.below b6
  have b6 := b5.trans (b6.mono b5.size)
  clear b5
  have a5 := Ae.arg_of_own o5 HLX.out
  clear o6 hr4
  go_wp2_with (first
    | (refine wpList_load_Row (w := u6) rfl 22 _ rfl u.heap.size rfl 22 .u8 _ r1 32 5 Tryz.underlying22 (by kernel_rfl) hk ?_)
    | (refine wpList_load_blk (w := u6) rfl 25 _ rfl u1.heap.size 5 rfl 25 _ p1 _ Tryz.underlying25 rfl (by kernel_rfl) rfl ?_))
  refine (opens_any B0 job hk hkb ph rr ad tm ix hp hq ha ht hi u6.heap.size A5 N c5 bx (sz : Int) u6 (hL.below (b6.mono hB0)) (Nat.le_trans hB0 b6.size) a5.ints (Nat.le_refl _) a5.2.2.1 a5.2.2.2.1 a5.2.2.2.2 hNle).mono ?_
  rintro e u7 ⟨A7, n7, c7, rfl, o7, b7⟩
  rw [HO1.out]
  rw [HO2.out] at o7
  have i5 := a5.ints.below b7
  have HS7 := Lib.hid b7.size
  have hf5 := a5.2.2.1
  have hc5 := a5.2.2.2.1
  have hm5 := a5.2.2.2.2
  obtain rfl : sz = n7 := by rw [← HLZ.out]; exact (o7.recs HWZ.out).1
  clear a5 o5
  have r1 := r1.below b7 r1.lt
  have p1 := p1.after b7
  have p2 := p2.after b7
  have b7 := b6.trans (b7.mono b6.size)
  clear b6
  go_wp2_with (first
    | (refine wpList_load_Row (w := u7) rfl 22 _ rfl u.heap.size rfl 22 .u8 _ r1 32 5 Tryz.underlying22 (by kernel_rfl) hk ?_)
    | (refine wpList_load_blk (w := u7) rfl 25 _ rfl u2.heap.size 5 rfl 25 _ p2 _ Tryz.underlying25 rfl (by kernel_rfl) rfl ?_))
  refine (opens_any B0 job hk hkb ph2 rr2 ad2 tm2 ix2 hp2 hq2 ha2 ht2 hi2 u6.heap.size A5 N c5 bx (sz : Int) u7 (hL.below (b7.mono hB0)) (Nat.le_trans hB0 b7.size) i5 HS7.out hf5 hc5 hm5 hNle).mono ?_
  rintro e u8 ⟨A8, n8, c8, rfl, o8, b8⟩
  rw [HF.out]
  have i5 := i5.below (b8.mono HS7.out)
  have H68 : u6.heap.size ≤ u8.heap.size := Nat.le_trans HS7.out b8.size
  have o7 := o7.below b8
  have r1 := r1.below b8 r1.lt
  have p1 := p1.after b8
  have p2 := p2.after b8
  have b8 := b7.trans (b8.mono b7.size)
  clear b7
  go_wp2_with (first
    | (refine wpList_load_Row (w := u8) rfl 22 _ rfl u.heap.size rfl 22 .u8 _ r1 32 5 Tryz.underlying22 (by kernel_rfl) hk ?_)
    | (refine wpList_load_blk (w := u8) rfl 25 _ rfl u2.heap.size 5 rfl 25 _ p2 _ Tryz.underlying25 rfl (by kernel_rfl) rfl ?_))
  refine (ropens_any job hk hkb ph2 rr2 ad2 tm2 ix2 ht2 u6.heap.size A5 N c5 bx (sz : Int) u8 i5 H68 hf5 hc5 hNle).mono ?_
  rintro e u9 ⟨A9, n9, c9, rfl, o9, b9⟩
  rw [HF.out]
  have o7 := o7.below b9
  have o8 := o8.below b9
  have HR2 := Lib.hid (blockOR_wf job ph2 rr2 ad2 tm2 ix2 (sz : Int) bx)
  have HL2 := Lib.hid (blockOR_length job ph2 rr2 ad2 tm2 ix2 (sz : Int) bx)
  generalize blockOR job ph2 rr2 ad2 tm2 ix2 (sz : Int) bx = qs at o8 o9 HR2 HL2
  have b9 := b8.trans (b9.mono b8.size)
  clear b8 r1 p1 p2 i5 HO1 HO2 HF
  go_wp2_with fail
  refine (awake10_any u9).mono ?_
  rintro e u10 ⟨rfl, b10⟩
  have o7 := o7.below b10
  have o8 := o8.below b10
  have o9 := o9.below b10
  have b10 := b9.trans (b10.mono b9.size)
  clear b9
  go_wp2_with fail
  refine (size_any (sz : Int) u10).mono ?_
  rintro e u11 ⟨rfl, b11⟩
  rw [HSZ.out]
  have h7 := (o7.below b11).recs HWZ.out
  have h8 := (o8.below b11).recs HR2.out
  have h9 := (o9.below b11).recs HR2.out
  have b11 := b10.trans (b11.mono b10.size)
  clear b10 o7 o8 o9
  go_wp2_with fail
  refine (plain_any u11.heap.size u11.heap.size A8 A9 n8 n9 c8 c9 _ _ u11 h8 h9 (Nat.le_refl _) (Nat.le_refl _) (by have := h8.1; have := HL2.out; omega) (by have := h9.1; have := HL2.out; omega)).mono ?_
  rintro e u12 ⟨rfl, b12⟩
  rw [decide_eq_true (rfl : qs = qs)]
  have h7 := (h7.below b12).more b12.size
  have b12 := b11.trans (b12.mono b11.size)
  clear h8 h9 b11 HR2 HL2
  have h3 := hr3.below b12
  clear hr3
  go_wp2_with fail
  go_loopw [23] (fun i wr => ∃ k : Nat, k ≤ sz ∧ i = .int .i64 k ∧ Below u12.heap.size u12 wr) (fun i _ => sz - (intOf i).toNat)
  case atStart => exact ⟨0, by omega, rfl, Below.refl _ _⟩
  case round =>
    obtain ⟨k, hk', rfl, bk⟩ := hrel
    by_cases hlt : k < sz
    · have HWK := Lib.hid (HWANT.out k hlt)
      have hlt' : (k : Int) < (sz : Int) := by omega
      have hk0 : (0 : Int) ≤ (k : Int) := by omega
      obtain ⟨g7, f7, rfl, hg7, x7⟩ := (h7.below bk).at_ hlt
      have hg7w : g7 < wr.heap.size := Nat.lt_of_lt_of_le hg7 bk.size
      by_cases hkp : k < p
      · obtain ⟨g3, f3, rfl, hg3, x3⟩ := (h3.below (bk.mono b12.size)).at_ hkp
        have hg3w : g3 < wr.heap.size := Nat.lt_of_lt_of_le hg3 (Nat.le_trans b12.size bk.size)
        have hdk : decide ((k : Int) < (p : Int)) = true := by simpa using hkp
        have hkp' : (k : Int) < (p : Int) := by omega
        have HWR := Lib.hid (show wantR xs k = if (xs.getD k R0).d = false then xs.getD k R0 else RD by
          unfold wantR
          by_cases hd : (xs.getD k R0).d = false
          · rw [if_pos ⟨by rw [hlx]; exact hkp, hd⟩, if_pos hd]
          · rw [if_neg (fun x => hd x.2), if_neg hd])
        rw [HWR.out] at HWK
        clear HWR
        generalize xs.getD k R0 = x at x3 HWK
        generalize zs.getD k R0 = y at x7 HWK
        rcases x with ⟨d, xk, xv, xs'⟩
        cases d
        · have hy : y = ⟨false, xk, xv, xs'⟩ := by rw [HWK.out]; exact if_pos rfl
          subst hy
          clear HWK
          go_wp2_with (first
            | (refine wpList_build_blk rfl 37 _ rfl #[.bool true, .int .i64 0, .int .i64 0, .int .i64 0] (by kernel_rfl) ?_)
            | (refine wpList_alloc_blk (w := wr) rfl 37 rfl _ zero_rec ?_; intro v1 q1 g1 z1)
            | (refine wpList_store_blk (w := v1) rfl 37 _ _ rfl wr.heap.size 4 rfl 37 _ #[.bool true, .int .i64 0, .int .i64 0, .int .i64 0] rfl q1 info_rec rfl rfl (by kernel_rfl) ?_; intro v2 q2 g2 z2; have b2 : Below wr.heap.size wr v2 := ((Below.refl _ wr).grown g1 (Nat.le_refl _) (by simp)).grown g2 g1.size (fun r e => by cases e; exact Nat.le_refl _); have y7 := range_below (B := wr.heap.size) x7 b2 hg7w; have y3 := range_below (B := wr.heap.size) x3 b2 hg3w)
            | (refine wpList_run (w := v2) rfl (v := .agg #[.bool false, .int .i64 xk, .int .i64 xv, .int .i64 xs']) (y_load_range (S := fun W => W = v2) (n := 4) (cs := R.cells ⟨false, xk, xv, xs'⟩) rfl rfl Tryz.underlying37 rfl (by kernel_rfl) rfl (fun W hW => by rw [hW]; exact y3) _ rfl) ?_)
            | (refine wpList_store_blk (w := v2) rfl 37 _ _ rfl wr.heap.size 4 rfl 37 _ #[.bool false, .int .i64 xk, .int .i64 xv, .int .i64 xs'] rfl q2 info_rec rfl rfl (by kernel_rfl) ?_; intro v3 q3 g3' z3; have b3' : Below wr.heap.size wr v3 := b2.grown g3' b2.size (fun r e => by cases e; exact Nat.le_refl _); have y7' := range_below (B := wr.heap.size) x7 b3' hg7w)
            | (refine wpList_run (w := v2) rfl (v := .pointer (some ⟨g3, f3 + k * 4, none⟩)) (Held.y_addr (S := fun _ => True) rfl rfl rfl (run_addr_of (P := Tryz.prog) 26 37 g3 f3 p c k 4 .i64 Tryz.underlying26 (by kernel_rfl) hkp) _ trivial) ?_)
            | (refine wpList_run (w := v2) rfl (v := .pointer (some ⟨g3, f3 + k * 4, none⟩)) (Held.y_field (S := fun _ => True) (k := 0) (s := 0) rfl rfl Tryz.underlying37 rfl (by kernel_rfl) rfl _ trivial) ?_)
            | (refine wpList_run (w := v2) rfl (v := .bool false) (Held.y_load (S := fun W => W = v2) rfl rfl (by kernel_rfl) (fun W hW => by rw [hW]; exact y3 0 _ rfl) _ rfl) ?_))
          refine wp_region_held (S := fun X => X = v3.drew) (by kernel_rfl) ?_
          change wpAnyH _ _ _ _ _ _ _ _ v3.drew
          refine Held.tk (v := .slice (some ⟨g7, f7, none⟩) sz c7) 0 (some 149) rfl (Held.y_move rfl rfl) rfl ?_
          simp only [Act.put, Z1, Z2, Z3]
          refine Held.tk (v := .int .i64 (k : Int)) 1 (some 150) rfl (Held.y_move rfl rfl) rfl ?_
          simp only [Act.put, Z1, Z2, Z3]
          refine Held.tk (v := .pointer (some ⟨g7, f7 + k * 4, none⟩)) 2 (some 151) rfl (Held.y_addr rfl rfl rfl (run_addr_of (P := Tryz.prog) 26 37 g7 f7 sz c7 k 4 .i64 Tryz.underlying26 (by kernel_rfl) hlt)) rfl ?_
          simp only [Act.put, Z1, Z2, Z3]
          refine Held.tk (v := .agg #[.bool false, .int .i64 xk, .int .i64 xv, .int .i64 xs']) 3 (some 152) rfl (y_load_range (n := 4) (cs := R.cells ⟨false, xk, xv, xs'⟩) rfl rfl Tryz.underlying37 rfl (by kernel_rfl) rfl (fun W hW => by rw [hW]; exact y7')) rfl ?_
          simp only [Act.put, Z1, Z2, Z3]
          refine Held.tk (v := .agg #[.bool false, .int .i64 xk, .int .i64 xv, .int .i64 xs']) 4 (some 153) rfl (Held.y_load_blk (n := 4) rfl rfl Tryz.underlying37 rfl (by kernel_rfl) rfl (fun W hW => by rw [hW]; exact q3.drew)) rfl ?_
          simp only [Act.put, Z1, Z2, Z3]
          refine Held.tk (v := .bool false) 5 (some 154) rfl (y_ner rfl rfl rfl (by simp)) rfl ?_
          simp only [Act.put, Z1, Z2, Z3]
          refine wpAnyH_done (by kernel_rfl) ?_ _
          have bk := bk.trans (b3'.drew.mono bk.size)
          go_wp2_with fail
          go_roundw
          case rel => exact ⟨k + 1, by omega, by go_num, bk⟩
          case measure => simp [intOf]; omega
        · have hy : y = RD := by rw [HWK.out]; exact if_neg (by simp)
          subst hy
          clear HWK
          go_wp2_with (first
            | (refine wpList_build_blk rfl 37 _ rfl #[.bool true, .int .i64 0, .int .i64 0, .int .i64 0] (by kernel_rfl) ?_)
            | (refine wpList_alloc_blk (w := wr) rfl 37 rfl _ zero_rec ?_; intro v1 q1 g1 z1)
            | (refine wpList_store_blk (w := v1) rfl 37 _ _ rfl wr.heap.size 4 rfl 37 _ #[.bool true, .int .i64 0, .int .i64 0, .int .i64 0] rfl q1 info_rec rfl rfl (by kernel_rfl) ?_; intro v2 q2 g2 z2; have b2 : Below wr.heap.size wr v2 := ((Below.refl _ wr).grown g1 (Nat.le_refl _) (by simp)).grown g2 g1.size (fun r e => by cases e; exact Nat.le_refl _); have y7 := range_below (B := wr.heap.size) x7 b2 hg7w; have y3 := range_below (B := wr.heap.size) x3 b2 hg3w)
            | (refine wpList_run (w := v2) rfl (v := .pointer (some ⟨g3, f3 + k * 4, none⟩)) (Held.y_addr (S := fun _ => True) rfl rfl rfl (run_addr_of (P := Tryz.prog) 26 37 g3 f3 p c k 4 .i64 Tryz.underlying26 (by kernel_rfl) hkp) _ trivial) ?_)
            | (refine wpList_run (w := v2) rfl (v := .pointer (some ⟨g3, f3 + k * 4, none⟩)) (Held.y_field (S := fun _ => True) (k := 0) (s := 0) rfl rfl Tryz.underlying37 rfl (by kernel_rfl) rfl _ trivial) ?_)
            | (refine wpList_run (w := v2) rfl (v := .bool true) (Held.y_load (S := fun W => W = v2) rfl rfl (by kernel_rfl) (fun W hW => by rw [hW]; exact y3 0 _ rfl) _ rfl) ?_))
          refine wp_region_held (S := fun X => X = v2.drew) (by kernel_rfl) ?_
          change wpAnyH _ _ _ _ _ _ _ _ v2.drew
          refine Held.tk (v := .slice (some ⟨g7, f7, none⟩) sz c7) 0 (some 149) rfl (Held.y_move rfl rfl) rfl ?_
          simp only [Act.put, Z1, Z2, Z3]
          refine Held.tk (v := .int .i64 (k : Int)) 1 (some 150) rfl (Held.y_move rfl rfl) rfl ?_
          simp only [Act.put, Z1, Z2, Z3]
          refine Held.tk (v := .pointer (some ⟨g7, f7 + k * 4, none⟩)) 2 (some 151) rfl (Held.y_addr rfl rfl rfl (run_addr_of (P := Tryz.prog) 26 37 g7 f7 sz c7 k 4 .i64 Tryz.underlying26 (by kernel_rfl) hlt)) rfl ?_
          simp only [Act.put, Z1, Z2, Z3]
          refine Held.tk (v := .agg #[.bool true, .int .i64 0, .int .i64 0, .int .i64 0]) 3 (some 152) rfl (y_load_range (n := 4) (cs := R.cells RD) rfl rfl Tryz.underlying37 rfl (by kernel_rfl) rfl (fun W hW => by rw [hW]; exact y7)) rfl ?_
          simp only [Act.put, Z1, Z2, Z3]
          refine Held.tk (v := .agg #[.bool true, .int .i64 0, .int .i64 0, .int .i64 0]) 4 (some 153) rfl (Held.y_load_blk (n := 4) rfl rfl Tryz.underlying37 rfl (by kernel_rfl) rfl (fun W hW => by rw [hW]; exact q2.drew)) rfl ?_
          simp only [Act.put, Z1, Z2, Z3]
          refine Held.tk (v := .bool false) 5 (some 154) rfl (y_ner rfl rfl rfl (by simp)) rfl ?_
          simp only [Act.put, Z1, Z2, Z3]
          refine wpAnyH_done (by kernel_rfl) ?_ _
          have bk := bk.trans (b2.drew.mono bk.size)
          go_wp2_with fail
          go_roundw
          case rel => exact ⟨k + 1, by omega, by go_num, bk⟩
          case measure => simp [intOf]; omega
      · have hdk : decide ((k : Int) < (p : Int)) = false := by simp; omega
        have hkp' : ¬ (k : Int) < (p : Int) := by omega
        have hy : zs.getD k R0 = RD := by rw [HWK.out]; exact if_neg (fun x => hkp (by rw [← hlx]; exact x.1))
        rw [hy] at x7
        clear HWK hy
        go_wp2_with (first
          | (refine wpList_build_blk rfl 37 _ rfl #[.bool true, .int .i64 0, .int .i64 0, .int .i64 0] (by kernel_rfl) ?_)
          | (refine wpList_alloc_blk (w := wr) rfl 37 rfl _ zero_rec ?_; intro v1 q1 g1 z1)
          | (refine wpList_store_blk (w := v1) rfl 37 _ _ rfl wr.heap.size 4 rfl 37 _ #[.bool true, .int .i64 0, .int .i64 0, .int .i64 0] rfl q1 info_rec rfl rfl (by kernel_rfl) ?_; intro v2 q2 g2 z2; have b2 : Below wr.heap.size wr v2 := ((Below.refl _ wr).grown g1 (Nat.le_refl _) (by simp)).grown g2 g1.size (fun r e => by cases e; exact Nat.le_refl _); have y7 := range_below (B := wr.heap.size) x7 b2 hg7w))
        refine wp_region_held (S := fun X => X = v2.drew) (by kernel_rfl) ?_
        change wpAnyH _ _ _ _ _ _ _ _ v2.drew
        refine Held.tk (v := .slice (some ⟨g7, f7, none⟩) sz c7) 0 (some 149) rfl (Held.y_move rfl rfl) rfl ?_
        simp only [Act.put, Z1, Z2, Z3]
        refine Held.tk (v := .int .i64 (k : Int)) 1 (some 150) rfl (Held.y_move rfl rfl) rfl ?_
        simp only [Act.put, Z1, Z2, Z3]
        refine Held.tk (v := .pointer (some ⟨g7, f7 + k * 4, none⟩)) 2 (some 151) rfl (Held.y_addr rfl rfl rfl (run_addr_of (P := Tryz.prog) 26 37 g7 f7 sz c7 k 4 .i64 Tryz.underlying26 (by kernel_rfl) hlt)) rfl ?_
        simp only [Act.put, Z1, Z2, Z3]
        refine Held.tk (v := .agg #[.bool true, .int .i64 0, .int .i64 0, .int .i64 0]) 3 (some 152) rfl (y_load_range (n := 4) (cs := R.cells RD) rfl rfl Tryz.underlying37 rfl (by kernel_rfl) rfl (fun W hW => by rw [hW]; exact y7)) rfl ?_
        simp only [Act.put, Z1, Z2, Z3]
        refine Held.tk (v := .agg #[.bool true, .int .i64 0, .int .i64 0, .int .i64 0]) 4 (some 153) rfl (Held.y_load_blk (n := 4) rfl rfl Tryz.underlying37 rfl (by kernel_rfl) rfl (fun W hW => by rw [hW]; exact q2.drew)) rfl ?_
        simp only [Act.put, Z1, Z2, Z3]
        refine Held.tk (v := .bool false) 5 (some 154) rfl (y_ner rfl rfl rfl (by simp)) rfl ?_
        simp only [Act.put, Z1, Z2, Z3]
        refine wpAnyH_done (by kernel_rfl) ?_ _
        have bk := bk.trans (b2.drew.mono bk.size)
        go_wp2_with fail
        go_roundw
        case rel => exact ⟨k + 1, by omega, by go_num, bk⟩
        case measure => simp [intOf]; omega
    · have hks : k = sz := by omega
      subst hks
      go_wp2_with fail
      go_ret
      exact ⟨rfl, b12.trans (bk.mono b12.size)⟩
theorem walk (z0 : List Int) (ph1 rr1 ad1 at1 ix1 : Int) (ph2 rr2 ad2 at2 ix2 : Int) (A3 : Option Addr) (m3 c3 : Nat) (rs3 : List Rs.R) (A4 : Option Addr) (m4 c4 : Nat) (rs4 : List Rs.R) (a5 : Int) (w : World) (zl0 : z0.length = 32) (zw0 : ∀ z ∈ z0, (Lit.int .u8 z).wf = true) (wp1 : (Lit.int .i64 ph1).wf = true) (wr1 : (Lit.int .i64 rr1).wf = true) (wa1 : (Lit.int .i64 ad1).wf = true) (wt1 : (Lit.int .u64 at1).wf = true) (wi1 : (Lit.int .i64 ix1).wf = true) (wp2 : (Lit.int .i64 ph2).wf = true) (wr2 : (Lit.int .i64 rr2).wf = true) (wa2 : (Lit.int .i64 ad2).wf = true) (wt2 : (Lit.int .u64 at2).wf = true) (wi2 : (Lit.int .i64 ix2).wf = true) (hr3 : Rs.Recs w w.heap.size A3 m3 rs3) (hc3 : m3 ≤ c3 ∧ c3 ≤ maxLen) (hr4 : Rs.Recs w w.heap.size A4 m4 rs4) (hc4 : m4 ≤ c4 ∧ c4 ≤ maxLen) (w5 : (Lit.int .i64 a5).wf = true) (hL : laidMetH Tryz.prog laidList w) :
    Calls Tryz.prog 4 #[.agg (Mem.arr .u8 z0), .agg #[.int .i64 ph1, .int .i64 rr1, .int .i64 ad1, .int .u64 at1, .int .i64 ix1], .agg #[.int .i64 ph2, .int .i64 rr2, .int .i64 ad2, .int .u64 at2, .int .i64 ix2], .slice A3 m3 c3, .slice A4 m4 c4, .int .i64 a5] w fun e w' => e = .returned (.bool true) ∧ Below w.heap.size w w' := by
  exact start w.heap.size z0 ph1 rr1 ad1 at1 ix1 ph2 rr2 ad2 at2 ix2 A3 m3 c3 rs3 A4 m4 c4 rs4 a5 w (laid_of hL) (Nat.le_refl _) zl0 zw0 wp1 wr1 wa1 wt1 wi1 wp2 wr2 wa2 wt2 wi2 hr3 hc3.1 hr4 hc4.1
set_option maxRecDepth 100000 in
theorem door_met (os : Os) (args : Array Value) : laidMetH Tryz.prog laidList ((World.doorLaid Tryz.prog 400 os).forCall (fun _ _ => 0) ⟨#[], args, []⟩).memory :=
  laidMetH_of_parts3 (fuel := 8) (laidMet_of_run' 8 (by kernel_rfl) (by kernel_rfl)) (by kernel_rfl) (by kernel_rfl)
set_option maxRecDepth 100000 in
theorem lifted (os : Os) (started : os.Started) (H : Type) (enc : TypeId × Value → H) :
    ReturnsInHanded {} Tryz.checked os 4 .any (fun w args => (Rows.blockBackSpec.pre enc Tryz.prog Tryz.f4 [] false w args ∧ laidMetH Tryz.prog laidList w) ∧ sizedMet enc Tryz.prog Tryz.f4 (OpenSpec.ofChange Rows.blockBackSpec) false w args)
      (Rows.blockBackSpec.post enc Tryz.prog Tryz.f4 false true false false) := by
  refine returnsInHanded_of_change_and (C := Tryz.checked) (X := fun w _ => laidMetH Tryz.prog laidList w) (fun _ _ _ hh h => h.of_heap hh) own started (by kernel_rfl) Tryz.func4
    (ChangeSpec.witness_shaped (enc := enc) (C := Tryz.checked) (os := os) (X := fun w _ => laidMetH Tryz.prog laidList w) false (World.doorLaid Tryz.prog 400 os) #[.agg (Array.replicate 32 (.int .u8 0)), .agg #[.int .i64 0, .int .i64 0, .int .i64 0, .int .u64 0, .int .i64 0], .agg #[.int .i64 0, .int .i64 0, .int .i64 0, .int .u64 0, .int .i64 0], .slice none 0 0, .slice none 0 0, .int .i64 0] 8 rfl (World.shaped_of_RefB (by kernel_rfl) (by kernel_rfl)) (by kernel_rfl) (by kernel_rfl) (by kernel_rfl) (door_met os _)) ?_
  intro W base args ds gs before hval0 hW _ _ hL _
  have hval : ∀ (j : Nat) t v, Tryz.f4.params[j]? = some t → args[j]? = some v → Value.okWide Tryz.prog W .any base t v := hval0
  have hW' := hW
  obtain ⟨p, q, hA0, hV, rfl, hfz, hnd⟩ := hW
  have hA : DataW.TrodAll enc Tryz.prog W 0 (fun _ => true) true Tryz.f4.params.toList args.toList ds p := hA0
  rw [Tryz.params4] at hA hval
  obtain ⟨v0, vs0, d0, ds0, p0, q0, hargs, rfl, rfl, h0, r0⟩ := trodAll_cons hA
  obtain ⟨v1, vs1, d1, ds1, p1, q1, rfl, rfl, rfl, h1, r1⟩ := trodAll_cons r0
  obtain ⟨v2, vs2, d2, ds2, p2, q2, rfl, rfl, rfl, h2, r2⟩ := trodAll_cons r1
  obtain ⟨v3, vs3, d3, ds3, p3, q3, rfl, rfl, rfl, h3, r3⟩ := trodAll_cons r2
  obtain ⟨v4, vs4, d4, ds4, p4, q4, rfl, rfl, rfl, h4, r4⟩ := trodAll_cons r3
  obtain ⟨v5, vs5, d5, ds5, p5, q5, rfl, rfl, rfl, h5, r5⟩ := trodAll_cons r4
  obtain ⟨rfl, rfl, rfl⟩ := trodAll_nil r5
  obtain rfl : args = #[v0, v1, v2, v3, v4, v5] := by cases args; simp_all
  obtain ⟨rfl, rfl⟩ := trodVars_none hV
  have k0 := h0
  have lt0 : ∀ x ∈ p0, x.block < W.heap.size := by obtain ⟨m, hm⟩ := k0; exact DataW.trod_lt m _ _ _ hm
  obtain ⟨z0, rfl, zl0, zw0⟩ := Mem.open_arr Tryz.underlying22 Tryz.underlying5 (by kernel_rfl) (by kernel_rfl) (hval 0 22 v0 rfl rfl) h0
  have k1 := h1
  have lt1 : ∀ x ∈ p1, x.block < W.heap.size := by obtain ⟨m, hm⟩ := k1; exact DataW.trod_lt m _ _ _ hm
  obtain ⟨ph1, rr1, ad1, at1, ix1, rfl, wp1, wr1, wa1, wt1, wi1⟩ := Ky.open_place (hval 1 25 v1 rfl rfl) h1
  have k2 := h2
  have lt2 : ∀ x ∈ p2, x.block < W.heap.size := by obtain ⟨m, hm⟩ := k2; exact DataW.trod_lt m _ _ _ hm
  obtain ⟨ph2, rr2, ad2, at2, ix2, rfl, wp2, wr2, wa2, wt2, wi2⟩ := Ky.open_place (hval 2 25 v2 rfl rfl) h2
  obtain ⟨A3, m3, c3, rfl⟩ := okWide_slice Tryz.underlying26 (hval 3 26 v3 rfl rfl)
  have kk3 := h3
  have lt3 : ∀ x ∈ p3, x.block < W.heap.size := by obtain ⟨m, hm⟩ := kk3; exact DataW.trod_lt m _ _ _ hm
  obtain ⟨rs3, hr3, hc3⟩ := Rs.open_recs h3
  obtain ⟨A4, m4, c4, rfl⟩ := okWide_slice Tryz.underlying26 (hval 4 26 v4 rfl rfl)
  have kk4 := h4
  have lt4 : ∀ x ∈ p4, x.block < W.heap.size := by obtain ⟨m, hm⟩ := kk4; exact DataW.trod_lt m _ _ _ hm
  obtain ⟨rs4, hr4, hc4⟩ := Rs.open_recs h4
  obtain ⟨a5, rfl, rfl, rfl, w5⟩ := open_int Tryz.underlying3 (hval 5 3 v5 rfl rfl) h5
  clear hA0 hval0
  refine (walk z0 ph1 rr1 ad1 at1 ix1 ph2 rr2 ad2 at2 ix2 A3 m3 c3 rs3 A4 m4 c4 rs4 a5 W zl0 zw0 wp1 wr1 wa1 wt1 wi1 wp2 wr2 wa2 wt2 wi2 hr3 hc3 hr4 hc4 w5 hL).mono fun e W' ⟨he, bel⟩ => ?_
  subst he
  exact ⟨_, rfl, _, _, _, [], _, [], hW', trodAll_mk1 (shut_bool Tryz.underlying4 _), (trodAll_cons_mk (Below.trod laidOut (by kernel_rfl) (of_decide_eq_true (by kernel_rfl)) k0 bel lt0) (trodAll_cons_mk (Below.trod laidOut (by kernel_rfl) (of_decide_eq_true (by kernel_rfl)) k1 bel lt1) (trodAll_cons_mk (Below.trod laidOut (by kernel_rfl) (of_decide_eq_true (by kernel_rfl)) k2 bel lt2) (trodAll_cons_mk (Below.trod laidOut (by kernel_rfl) (of_decide_eq_true (by kernel_rfl)) kk3 bel lt3) (trodAll_cons_mk (Below.trod laidOut (by kernel_rfl) (of_decide_eq_true (by kernel_rfl)) kk4 bel lt4) (trodAll_cons_mk (shut_int Tryz.underlying3 w5) trodAll_mk0)))))), rfl, bel.frame _, fun h => by cases h⟩
theorem over : Rows.blockBackRow.holds Tryz.pinned (OpenSpec.ofChange Rows.blockBackSpec) :=
  OpenClaim.holds_of_wide 4 Tryz.f4 rfl rfl rfl rfl rfl rfl rfl ⟨rfl, rfl, rfl, rfl, rfl⟩ rfl rfl rfl rfl rfl (by kernel_rfl) Tryz.func4 (by kernel_rfl)
    (of_decide_eq_true (by kernel_rfl)) (by unfold Func.isWrapper; first | (rw [if_pos (by decide +kernel)]; kernel_rfl) | (rw [if_neg (by decide +kernel)]; exact ⟨rfl, rfl⟩))
    (fun os started H enc _ => lifted os started H enc)
theorem proved : Rows.BlockBackCardSaid :=
  Claim7.holds_tied_plain_at .later [] [.widerDeep, .data, .data, .data] true (true, "4a917432fcacacb367004d356b5969ecebaa18f42879a84b643d3d5536a92010") false
    over (fun _ h => by cases h) (by kernel_rfl) (fun _ h => by cases h) blockBack_row_tie rfl ⟨rfl, rfl⟩ (by kernel_rfl) rfl
    (fun f fn hf hfn => by
      obtain rfl : f = 4 := Option.some.inj ((show Tryz.prog.funcNamed "domino/dominolaw10.BlockBack" = some 4 by kernel_rfl).symm.trans hf) |>.symm
      obtain rfl : fn = Tryz.f4 := (Option.some.inj (Tryz.func4.symm.trans hfn)).symm
      exact ⟨by kernel_rfl, fun j t ht => by
        rw [Tryz.params4] at ht
        have hm : t ∈ [22, 25, 25, 26, 26, 3] := by simpa using Array.mem_of_getElem? ht
        have hall : ([22, 25, 25, 26, 26, 3].all fun u => !Tryz.prog.wantsStandIn u) = true := by kernel_rfl
        exact (show Tryz.prog.wantsStandIn t = false by simpa using List.all_eq_true.1 hall t hm)⟩)
    (by kernel_rfl)
#print axioms proved
end Go.Proofs.YtjelacblnjbfgaaGreatDoor.blockBack
