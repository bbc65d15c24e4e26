/-
  Package block's Seal and Open, by their contracts.
  The first line of stage 10's laws, by its contract.
  The first line of stage 10's laws, by its contract, and where the four tables lie.
  What the frame of a proof says of an array of numbers that came in by value.
  What the frame of a proof says of a place that came in by value.
-/
import Derived.Test.YtjelacblnjbfgaaGreatDoorB23
import Derived.Test.YtjelacblnjbfgaaGreatDoorB29
import Derived.Test.YtjelacblnjbfgaaGreatDoorB28
import Derived.Test.YtjelacblnjbfgaaGreatDoorB21
import Derived.Test.YtjelacblnjbfgaaGreatDoorB13
import Derived.Test.YtjelacblnjbfgaaGreatDoorB1
import Derived.WideShapes
import Derived.ChangeArms
set_option linter.unusedVariables false
namespace Go.Proofs.YtjelacblnjbfgaaGreatDoor.Rs
open Go.RowKit Go.Shelf Go.Proofs.YtjelacblnjbfgaaGreatDoor Mem Help Go.Proofs.YtjelacblnjbfgaaGreatDoor.Sum Po Ky Ae Hkdf Held Rc
attribute [local irreducible] wpList wpListIn Calls
def LaidB (B : Nat) (w : World) : Prop := Ae.Laid B w ∧ Sha.Tab w 2 Sum.H0 ∧ Sha.Tab w 3 Sum.K ∧ 2 < B ∧ 3 < B
theorem LaidB.below {B : Nat} {w w' : World} (h : LaidB B w) (hb : Below B w w') : LaidB B w' := ⟨h.1.below hb, h.2.1.below hb h.2.2.2.1, h.2.2.1.below hb h.2.2.2.2, h.2.2.2⟩
theorem flat_of_ownM {w : World} {base : Nat} {A : Option Addr} {n c : Nat} {zs : List Int} (h : OwnM w base 5 .u8 (.slice A n c) zs) : Flat A c := by
  rcases h.2 with ⟨e, _⟩ | ⟨g, cap, cur, fz, e, _⟩
  · cases e; exact .inl rfl
  · cases e; exact Flat.head _ _ _
theorem arg_of_ownM {w : World} {base : Nat} {A : Option Addr} {n c : Nat} {zs : List Int} (h : OwnM w base 5 .u8 (.slice A n c) zs) (hn : zs.length = n) : Arg w w.heap.size A n c zs := by
  have hf := flat_of_ownM h
  obtain ⟨_, _, ev, h1, h2, hi⟩ := h.form
  rw [hn] at ev h1 hi
  cases ev
  exact ⟨hi, Nat.le_refl _, hf, h1, h2⟩
theorem ownM_len {w : World} {base : Nat} {A : Option Addr} {n c : Nat} {zs : List Int} (h : OwnM w base 5 .u8 (.slice A n c) zs) : zs.length = n := by
  obtain ⟨_, _, ev, _⟩ := h.form
  cases ev
  rfl
theorem open_uni (key nonce : List Int) (B0 B : Nat) (A : Option Addr) (n c : Nat) (xs : List Int) (B2 : Nat) (A2 : Option Addr) (n2 c2 : Nat) (ys : List Int) (w : World) (hL : Ae.Laid B0 w) (hB0 : B0 ≤ w.heap.size) (hk : key.length = 32) (hkb : Bs key) (hnl : nonce.length = 12) (hnb : Bs nonce)
    (h : Arg w B A n c xs) (hn : n ≤ 65536) (h2 : Arg w B2 A2 n2 c2 ys) (hn2 : n2 ≤ 65552) :
    Calls Tryz.prog 25 #[.agg (arr .u8 key), .agg (arr .u8 nonce), .slice A n c, .slice A2 n2 c2] w fun e w' => ∃ A' m c', e = .returned (.tuple #[.slice A' m c', .int .i64 (oE key nonce xs ys)]) ∧ Hid ((oP key nonce xs ys).length = m) ∧ Mem.Own w' w.heap.size 5 .u8 (.slice A' m c') (oP key nonce xs ys) ∧ Below w.heap.size w w' := by
  have hl := h2.len
  by_cases hs : n2 < 16
  · refine (open_short key nonce B0 B A n c xs B2 A2 n2 c2 ys w hL hB0 hk hkb hnl hnb h hn h2 hs).mono ?_
    rintro e w' ⟨rfl, hw⟩
    have h1 : oE key nonce xs ys = 3 := if_pos (by omega)
    have h2 : oP key nonce xs ys = [] := if_pos (by omega)
    rw [h1, h2]
    exact ⟨none, 0, 0, rfl, Lib.hid rfl, Own.nil _ _ _ _, hw⟩
  · obtain ⟨q, hq⟩ : ∃ q, n2 = q + 16 := ⟨n2 - 16, by omega⟩
    refine (open_any key nonce B0 B A n c xs B2 A2 n2 c2 q ys w hL hB0 hk hkb hnl hnb h hn h2 hq (by omega)).mono ?_
    rintro e w' ⟨hw, ⟨ho, rfl⟩ | ⟨p, A', c', ho, hp, rfl, op⟩⟩
    · have h1 : oE key nonce xs ys = 6 := by rw [oE, if_neg (by omega), ho]
      have h2 : oP key nonce xs ys = [] := by rw [oP, if_neg (by omega), ho]; rfl
      rw [h1, h2]
      exact ⟨none, 0, 0, rfl, Lib.hid rfl, Own.nil _ _ _ _, hw⟩
    · have h1 : oE key nonce xs ys = 0 := by rw [oE, if_neg (by omega), ho]
      have h2 : oP key nonce xs ys = p := by rw [oP, if_neg (by omega), ho]; rfl
      rw [h1, h2]
      exact ⟨A', q, c', rfl, Lib.hid hp, op, hw⟩
set_option maxRecDepth 100000 in
set_option maxHeartbeats 4000000 in
theorem seals_bad (job : List Int) (hk : job.length = 32) (hkb : ∀ z ∈ job, (Lit.int .u8 z).wf = true) (ph rr ad tm ix : Int) (ht : (Lit.int .u64 tm).wf = true) (A : Option Addr) (n c : Nat) (size : Int) (w : World) (hs : mayS size = false) :
    Calls Tryz.prog 6 #[.agg (arr .u8 job), .agg #[.int .i64 ph, .int .i64 rr, .int .i64 ad, .int .u64 tm, .int .i64 ix], .slice A n c, .int .i64 size] w fun e w' => e = .returned (.tuple #[.slice none 0 0, .int .i64 1]) ∧ Below w.heap.size w w' := by
  go_enter Tryz.func6, Tryz.ntmps6
  go_wp2_with (first
    | (refine wpList_box_Row (w := w) rfl 22 _ rfl .u8 job rfl hkb ?_; intro u1 ra ga za)
    | (refine wpList_box_blk (w := u1) rfl 25 _ rfl #[.int .i64 ph, .int .i64 rr, .int .i64 ad, .int .u64 tm, .int .i64 ix] rfl ?_; intro u2 qp gb zb; have ra := ra.grown gb (by simp)))
  have bz : Below w.heap.size w u2 := ((Below.refl _ w).grown ga (Nat.le_refl _) (by simp)).grown gb ga.size (by simp)
  clear ga gb za zb
  refine (packs_bad A n c size _ hs).mono ?_
  rintro e u3 ⟨rfl, rfl⟩
  go_wp2_with fail
  exact bodyPost_ret (results_tmp2 rfl _ _ _) rfl ⟨rfl, bz⟩
set_option maxRecDepth 100000 in
set_option maxHeartbeats 4000000 in
theorem seals_long (job : List Int) (hk : job.length = 32) (hkb : ∀ z ∈ job, (Lit.int .u8 z).wf = true) (ph rr ad tm ix : Int) (ht : (Lit.int .u64 tm).wf = true) (A : Option Addr) (n c : Nat) (size : Int) (w : World) (hs : mayS size = true) (hn : size < (n : Int)) :
    Calls Tryz.prog 6 #[.agg (arr .u8 job), .agg #[.int .i64 ph, .int .i64 rr, .int .i64 ad, .int .u64 tm, .int .i64 ix], .slice A n c, .int .i64 size] w fun e w' => e = .returned (.tuple #[.slice none 0 0, .int .i64 5]) ∧ Below w.heap.size w w' := by
  go_enter Tryz.func6, Tryz.ntmps6
  go_wp2_with (first
    | (refine wpList_box_Row (w := w) rfl 22 _ rfl .u8 job rfl hkb ?_; intro u1 ra ga za)
    | (refine wpList_box_blk (w := u1) rfl 25 _ rfl #[.int .i64 ph, .int .i64 rr, .int .i64 ad, .int .u64 tm, .int .i64 ix] rfl ?_; intro u2 qp gb zb; have ra := ra.grown gb (by simp)))
  have bz : Below w.heap.size w u2 := ((Below.refl _ w).grown ga (Nat.le_refl _) (by simp)).grown gb ga.size (by simp)
  clear ga gb za zb
  refine (packs_long A n c size _ hs hn).mono ?_
  rintro e u3 ⟨rfl, rfl⟩
  go_wp2_with fail
  exact bodyPost_ret (results_tmp2 rfl _ _ _) rfl ⟨rfl, bz⟩
set_option maxRecDepth 100000 in
set_option maxHeartbeats 16000000 in
theorem seals_ok (B0 : Nat) (job : List Int) (hk : job.length = 32) (hkb : ∀ z ∈ job, (Lit.int .u8 z).wf = true) (ph rr ad tm ix : Int) (ht : (Lit.int .u64 tm).wf = true) (B : Nat) (A : Option Addr) (n c : Nat) (rs : List R) (size : Nat) (w : World) (hL : LaidB B0 w) (hB0 : B0 ≤ w.heap.size) (h : Recs w B A n rs) (hB : B ≤ w.heap.size) (h1 : 1 ≤ size) (h8 : size ≤ 8) (hn : n ≤ size) :
    Calls Tryz.prog 6 #[.agg (arr .u8 job), .agg #[.int .i64 ph, .int .i64 rr, .int .i64 ad, .int .u64 tm, .int .i64 ix], .slice A n c, .int .i64 (size : Int)] w fun e w' => ∃ A' m c', e = .returned (.tuple #[.slice A' m c', .int .i64 0]) ∧ Hid ((blockS job ph rr ad tm ix rs size).length = m) ∧ Mem.Own w' w.heap.size 5 .u8 (.slice A' m c') (blockS job ph rr ad tm ix rs size) ∧ Below w.heap.size w w' := by
  unfold blockS
  obtain ⟨nz, hnz⟩ : ∃ nz : Int, 32 * (size : Int) = nz := ⟨_, rfl⟩
  obtain ⟨pl, hple⟩ : ∃ pl, packs (pad rs size) = pl := ⟨_, rfl⟩
  rw [hnz, hple]
  have HNZ := Lib.hid hnz
  have hs0 : (0 : Int) ≤ (size : Int) := by omega
  have hs8 : (size : Int) ≤ 8 := by omega
  have HPL := Lib.hid hple
  clear hple
  go_enter Tryz.func6, Tryz.ntmps6
  go_wp2_with (first
    | (refine wpList_box_Row (w := w) rfl 22 _ rfl .u8 job rfl hkb ?_; intro u1 ra ga za)
    | (refine wpList_box_blk (w := u1) rfl 25 _ rfl #[.int .i64 ph, .int .i64 rr, .int .i64 ad, .int .u64 tm, .int .i64 ix] rfl ?_; intro u2 qp gb zb; have ra := ra.grown gb (by simp)))
  have bz : Below w.heap.size w u2 := ((Below.refl _ w).grown ga (Nat.le_refl _) (by simp)).grown gb ga.size (by simp)
  clear ga gb za zb
  refine (packs_ok B A n c rs size u2 (h.below (bz.mono hB)) (Nat.le_trans hB bz.size) h1 h8 hn).mono ?_
  rintro e u3 ⟨A1, c1, rfl, op, b3⟩
  have ra := ra.below b3 ra.lt
  have qp := qp.below b3 qp.lt
  have bz := bz.trans (b3.mono bz.size)
  have hpl : (packs (pad rs size)).length = 32 * size := by rw [packs_length, pad_length (by rw [h.1]; exact hn)]
  obtain ⟨n1, hn1e⟩ : ∃ n1, 32 * size = n1 := ⟨_, rfl⟩
  rw [HPL.out, hn1e] at op hpl
  rw [hn1e]
  have hn1 : n1 ≤ 65536 := by omega
  have hpi := arg_of_own op hpl
  have HLW : ∀ {W : World}, Below u3.heap.size u3 W → Below B0 w W := fun hW => (bz.mono hB0).trans (hW.mono (Nat.le_trans hB0 bz.size))
  have lra := ra.lt
  have lqp := qp.lt
  clear b3 op hnz hn1e h h1 h8 hn hB
  go_wp2_with fail
  refine wp_region_held (S := fun W => Below u3.heap.size u3 W) (by kernel_rfl) ?_
  change wpAnyH _ _ _ _ _ _ _ _ u3.drew
  have c0_0 := (Below.refl u3.heap.size u3).drew
  refine Held.tk (v := .agg (arr .u8 job)) 0 (some 21) rfl (Held.y_load_Row rfl rfl Tryz.underlying22 (by kernel_rfl) hk (fun W hW => ra.below hW lra)) c0_0 ?_
  simp only [Act.put, Z1, Z2, Z3]
  refine Held.tk (v := .agg #[.int .i64 ph, .int .i64 rr, .int .i64 ad, .int .u64 tm, .int .i64 ix]) 1 (some 22) rfl (Held.y_load_blk (n := 5) rfl rfl Tryz.underlying25 rfl (by kernel_rfl) rfl (fun W hW => qp.below hW lqp)) c0_0 ?_
  simp only [Act.put, Z1, Z2, Z3]
  refine Held.tk (v := .pointer (some ⟨u1.heap.size, 3, none⟩)) 3 (some 24) rfl (Held.y_field (k := 3) (s := 0) rfl rfl Tryz.underlying25 rfl (by kernel_rfl) rfl) c0_0 ?_
  simp only [Act.put, Z1, Z2, Z3]
  refine Held.tk (v := .int .u64 tm) 4 (some 25) rfl (Held.y_load rfl rfl (by kernel_rfl) (fun W hW => (qp.below hW lqp).cell rfl)) c0_0 ?_
  simp only [Act.put, Z1, Z2, Z3]
  refine Held.tk (v := .pointer (some ⟨u1.heap.size, 4, none⟩)) 5 (some 26) rfl (Held.y_field (k := 4) (s := 0) rfl rfl Tryz.underlying25 rfl (by kernel_rfl) rfl) c0_0 ?_
  simp only [Act.put, Z1, Z2, Z3]
  refine Held.tk (v := .int .i64 ix) 6 (some 27) rfl (Held.y_load rfl rfl (by kernel_rfl) (fun W hW => (qp.below hW lqp).cell rfl)) c0_0 ?_
  simp only [Act.put, Z1, Z2, Z3]
  refine Held.tk (v := .agg #[.int .i64 ph, .int .i64 rr, .int .i64 ad, .int .u64 tm, .int .i64 ix]) 8 (some 29) rfl (Held.y_load_blk (n := 5) rfl rfl Tryz.underlying25 rfl (by kernel_rfl) rfl (fun W hW => qp.below hW lqp)) c0_0 ?_
  simp only [Act.put, Z1, Z2, Z3]
  refine Held.tk (v := .int .i64 (size : Int)) 9 (some 30) rfl (Held.y_move rfl rfl) c0_0 ?_
  simp only [Act.put, Z1, Z2, Z3]
  refine Held.tk (v := .slice A1 n1 c1) 12 (some 33) rfl (Held.y_move rfl rfl) c0_0 ?_
  simp only [Act.put, Z1, Z2, Z3]
  refine Held.one 2 (by kernel_rfl) ?_
  refine Held.op_call 2 (some 23) 15 #[.agg (arr .u8 job), .agg #[.int .i64 ph, .int .i64 rr, .int .i64 ad, .int .u64 tm, .int .i64 ix]] rfl rfl rfl rfl (enters_of Tryz.func15 (by kernel_rfl) rfl) (by simp [Act.eval])
    (place_any job hk hkb ph rr ad tm ix _ (hL.2.1.below (HLW c0_0) hL.2.2.2.1) (hL.2.2.1.below (HLW c0_0) hL.2.2.2.2)) ?_
  rintro e w1 ⟨rfl, b1⟩
  have c0_1 := c0_0.trans (b1.mono c0_0.size)
  refine ⟨_, rfl, c0_1, ?_⟩
  simp only [Act.put, Z1, Z2, Z3]
  refine Held.one 7 (by kernel_rfl) ?_
  refine Held.op_call 7 (some 28) 16 #[.int .u64 tm, .int .i64 ix] rfl rfl rfl rfl (enters_of Tryz.func16 (by kernel_rfl) rfl) (by simp [Act.eval])
    (nonce_any tm ix ht _) ?_
  rintro e w2 ⟨rfl, b2⟩
  have c0_2 := c0_1.trans (b2.mono c0_1.size)
  refine ⟨_, rfl, c0_2, ?_⟩
  simp only [Act.put, Z1, Z2, Z3]
  refine Held.one 10 (by kernel_rfl) ?_
  refine Held.op_call 10 (some 31) 18 #[.int .i64 (size : Int)] rfl rfl rfl rfl (enters_of Tryz.func18 (by kernel_rfl) rfl) (by simp [Act.eval])
    (bplain_any (size : Int) _ hs0 hs8) ?_
  rintro e w9 ⟨rfl, rfl⟩
  rw [HNZ.out]
  refine ⟨_, rfl, c0_2, ?_⟩
  simp only [Act.put, Z1, Z2, Z3]
  refine Held.one 11 (by kernel_rfl) ?_
  refine Held.op_call 11 (some 32) 17 #[.agg #[.int .i64 ph, .int .i64 rr, .int .i64 ad, .int .u64 tm, .int .i64 ix], .int .i64 nz] rfl rfl rfl rfl (enters_of Tryz.func17 (by kernel_rfl) rfl) (by simp [Act.eval])
    (aad_any ph rr ad tm ix nz ht _) ?_
  rintro e w3 ⟨pA, pn, pc, rfl, oa, b3⟩
  have c0_3 := c0_2.trans (b3.mono c0_2.size)
  refine ⟨_, rfl, c0_3, ?_⟩
  simp only [Act.put, Z1, Z2, Z3]
  refine Held.one 13 (by kernel_rfl) ?_
  refine Held.op_call 13 (some 34) 14 #[.agg (arr .u8 (kPlace job ph rr ad)), .agg (arr .u8 (nonce tm ix)), .slice pA pn pc, .slice A1 n1 c1] rfl rfl rfl rfl (enters_of Tryz.func14 (by kernel_rfl) rfl) (by simp [Act.eval])
    (seal_any (kPlace job ph rr ad) (nonce tm ix) B0 w3.heap.size pA pn pc (kAad ph rr ad tm ix nz) u3.heap.size A1 n1 c1 pl _ (hL.1.below (HLW c0_3)) (Nat.le_trans hB0 (Nat.le_trans bz.size c0_3.size)) (kp_length _ _ _ _) (kp_bytes _ _ _ _) (nonce_length _ _) (nonce_bytes _ _) (arg_of_ownM oa (ownM_len oa)) (by have := ownM_len oa; rw [kAad_length] at this; omega) (hpi.below c0_3) hn1) ?_
  rintro e w4 ⟨sA, sm, sc, rfl, hsm, os, b4⟩
  have c0_4 := c0_3.trans (b4.mono c0_3.size)
  refine ⟨_, rfl, c0_4, ?_⟩
  simp only [Act.put, Z1, Z2, Z3]
  refine Held.tk (v := .slice sA sm sc) 14 (some 35) rfl (Held.y_extract rfl rfl rfl) c0_4 ?_
  simp only [Act.put, Z1, Z2, Z3]
  refine Held.tk (v := .int .i64 0) 15 (some 36) rfl (Held.y_extract rfl rfl rfl) c0_4 ?_
  simp only [Act.put, Z1, Z2, Z3]
  refine Held.tk (v := .slice sA sm sc) 16 (some 8) rfl (Held.y_assign rfl rfl) c0_4 ?_
  simp only [Act.put, Z1, Z2, Z3]
  refine Held.tk (v := .int .i64 0) 17 (some 9) rfl (Held.y_assign rfl rfl) c0_4 ?_
  simp only [Act.put, Z1, Z2, Z3]
  refine wpAnyH_done (by kernel_rfl) ?_ _
  have dz := bz.trans (c0_4.mono bz.size)
  go_wp2_with fail
  exact bodyPost_ret (results_tmp2 rfl _ _ _) rfl ⟨sA, sm, sc, rfl, hsm, os.less (Nat.le_trans bz.size c0_3.size), dz⟩
theorem seals_any (B0 : Nat) (job : List Int) (hk : job.length = 32) (hkb : ∀ z ∈ job, (Lit.int .u8 z).wf = true) (ph rr ad tm ix : Int) (hp : (Lit.int .i64 ph).wf = true) (hq : (Lit.int .i64 rr).wf = true) (ha : (Lit.int .i64 ad).wf = true) (ht : (Lit.int .u64 tm).wf = true) (hi : (Lit.int .i64 ix).wf = true) (B : Nat) (A : Option Addr) (n c : Nat) (rs : List R) (size : Int) (w : World) (hL : LaidB B0 w) (hB0 : B0 ≤ w.heap.size) (h : Recs w B A n rs) (hB : B ≤ w.heap.size) :
    Calls Tryz.prog 6 #[.agg (arr .u8 job), .agg #[.int .i64 ph, .int .i64 rr, .int .i64 ad, .int .u64 tm, .int .i64 ix], .slice A n c, .int .i64 size] w fun e w' => ∃ A' m c', e = .returned (.tuple #[.slice A' m c', .int .i64 (packE n size)]) ∧ Hid ((sealB job ph rr ad tm ix rs size).length = m) ∧ Mem.Own w' w.heap.size 5 .u8 (.slice A' m c') (sealB job ph rr ad tm ix rs size) ∧ Below w.heap.size w w' := by
  have hl := h.1
  by_cases hs : mayS size = true
  · have hb : 1 ≤ size ∧ size ≤ 8 := by simpa [mayS] using hs
    by_cases h1 : size < (n : Int)
    · refine (seals_long job hk hkb ph rr ad tm ix ht A n c size w hs h1).mono ?_
      rintro e w' ⟨rfl, hw⟩
      have HE : packE n size = 5 := by rw [packE, if_neg (by simp [hs]), if_pos h1]
      have HB : sealB job ph rr ad tm ix rs size = [] := by rw [sealB, if_neg (by omega)]
      rw [HE, HB]
      exact ⟨none, 0, 0, rfl, Lib.hid rfl, Own.nil _ _ _ _, hw⟩
    · obtain ⟨q, rfl⟩ : ∃ q : Nat, (q : Int) = size := ⟨size.toNat, by omega⟩
      have HE : packE n (q : Int) = 0 := by rw [packE, if_neg (by simp [hs]), if_neg h1]
      have HB : sealB job ph rr ad tm ix rs (q : Int) = blockS job ph rr ad tm ix rs q := by rw [sealB, if_pos ⟨hs, by omega⟩]; rfl
      rw [HE, HB]
      exact seals_ok B0 job hk hkb ph rr ad tm ix ht B A n c rs q w hL hB0 h hB (by omega) (by omega) (by omega)
  · have hs' : mayS size = false := by simpa using hs
    refine (seals_bad job hk hkb ph rr ad tm ix ht A n c size w hs').mono ?_
    rintro e w' ⟨rfl, hw⟩
    have HE : packE n size = 1 := by rw [packE, if_pos hs']
    have HB : sealB job ph rr ad tm ix rs size = [] := by rw [sealB, if_neg (fun h => hs h.1)]
    rw [HE, HB]
    exact ⟨none, 0, 0, rfl, Lib.hid rfl, Own.nil _ _ _ _, hw⟩
set_option maxRecDepth 100000 in
set_option maxHeartbeats 16000000 in
theorem opens_may (B0 : Nat) (job : List Int) (hk : job.length = 32) (hkb : ∀ z ∈ job, (Lit.int .u8 z).wf = true) (ph rr ad tm ix : Int) (ht : (Lit.int .u64 tm).wf = true) (B : Nat) (A : Option Addr) (n c : Nat) (zs : List Int) (size : Int) (w : World) (hL : LaidB B0 w) (hB0 : B0 ≤ w.heap.size) (h : Ints w .u8 B A n zs) (hB : B ≤ w.heap.size) (hf : Flat A c) (hc : n ≤ c) (hcm : c ≤ maxLen) (hn : n ≤ 65552) (hs : mayS size = true) :
    Calls Tryz.prog 8 #[.agg (arr .u8 job), .agg #[.int .i64 ph, .int .i64 rr, .int .i64 ad, .int .u64 tm, .int .i64 ix], .int .i64 size, .slice A n c] w fun e w' => ∃ A' n' c', e = .returned (.tuple #[.slice A' n' c', .int .i64 (blockOE job ph rr ad tm ix size zs)]) ∧ OwnR w' w.heap.size (.slice A' n' c') (blockOR job ph rr ad tm ix size zs) ∧ Below w.heap.size w w' := by
  obtain ⟨nz, hnz⟩ : ∃ nz : Int, 32 * size = nz := ⟨_, rfl⟩
  have hb : 1 ≤ size ∧ size ≤ 8 := by simpa [mayS] using hs
  have HNZ := Lib.hid hnz
  have HS := Lib.hid hs
  have hs0 : (0 : Int) ≤ size := by omega
  have hs8 : size ≤ 8 := hb.2
  clear hnz hb
  go_enter Tryz.func8, Tryz.ntmps8
  go_wp2_with (first
    | (refine wpList_box_Row (w := w) rfl 22 _ rfl .u8 job rfl hkb ?_; intro u1 ra ga za)
    | (refine wpList_box_blk (w := u1) rfl 25 _ rfl #[.int .i64 ph, .int .i64 rr, .int .i64 ad, .int .u64 tm, .int .i64 ix] rfl ?_; intro u2 qp gb zb; have ra := ra.grown gb (by simp)))
  have bz : Below w.heap.size w u2 := ((Below.refl _ w).grown ga (Nat.le_refl _) (by simp)).grown gb ga.size (by simp)
  clear ga gb za zb
  refine (bmay_any size u2).mono ?_
  rintro e u3 ⟨rfl, rfl⟩
  rw [hs]
  clear hs
  have HLW : ∀ {W : World}, Below u2.heap.size u2 W → Below B0 w W := fun hW => (bz.mono hB0).trans (hW.mono (Nat.le_trans hB0 bz.size))
  have lra := ra.lt
  have lqp := qp.lt
  go_wp2_with fail
  refine wp_region_held (S := fun W => Below u2.heap.size u2 W) (by kernel_rfl) ?_
  change wpAnyH _ _ _ _ _ _ _ _ u2.drew
  have c0_0 := (Below.refl u2.heap.size u2).drew
  refine Held.tk (v := .agg (arr .u8 job)) 0 (some 16) rfl (Held.y_load_Row rfl rfl Tryz.underlying22 (by kernel_rfl) hk (fun W hW => ra.below hW lra)) c0_0 ?_
  simp only [Act.put, Z1, Z2, Z3]
  refine Held.tk (v := .agg #[.int .i64 ph, .int .i64 rr, .int .i64 ad, .int .u64 tm, .int .i64 ix]) 1 (some 17) rfl (Held.y_load_blk (n := 5) rfl rfl Tryz.underlying25 rfl (by kernel_rfl) rfl (fun W hW => qp.below hW lqp)) c0_0 ?_
  simp only [Act.put, Z1, Z2, Z3]
  refine Held.tk (v := .pointer (some ⟨u1.heap.size, 3, none⟩)) 3 (some 19) rfl (Held.y_field (k := 3) (s := 0) rfl rfl Tryz.underlying25 rfl (by kernel_rfl) rfl) c0_0 ?_
  simp only [Act.put, Z1, Z2, Z3]
  refine Held.tk (v := .int .u64 tm) 4 (some 20) rfl (Held.y_load rfl rfl (by kernel_rfl) (fun W hW => (qp.below hW lqp).cell rfl)) c0_0 ?_
  simp only [Act.put, Z1, Z2, Z3]
  refine Held.tk (v := .pointer (some ⟨u1.heap.size, 4, none⟩)) 5 (some 21) rfl (Held.y_field (k := 4) (s := 0) rfl rfl Tryz.underlying25 rfl (by kernel_rfl) rfl) c0_0 ?_
  simp only [Act.put, Z1, Z2, Z3]
  refine Held.tk (v := .int .i64 ix) 6 (some 22) rfl (Held.y_load rfl rfl (by kernel_rfl) (fun W hW => (qp.below hW lqp).cell rfl)) c0_0 ?_
  simp only [Act.put, Z1, Z2, Z3]
  refine Held.tk (v := .agg #[.int .i64 ph, .int .i64 rr, .int .i64 ad, .int .u64 tm, .int .i64 ix]) 8 (some 24) rfl (Held.y_load_blk (n := 5) rfl rfl Tryz.underlying25 rfl (by kernel_rfl) rfl (fun W hW => qp.below hW lqp)) c0_0 ?_
  simp only [Act.put, Z1, Z2, Z3]
  refine Held.tk (v := .int .i64 size) 9 (some 25) rfl (Held.y_move rfl rfl) c0_0 ?_
  simp only [Act.put, Z1, Z2, Z3]
  refine Held.tk (v := .slice A n c) 12 (some 28) rfl (Held.y_move rfl rfl) c0_0 ?_
  simp only [Act.put, Z1, Z2, Z3]
  refine Held.one 2 (by kernel_rfl) ?_
  refine Held.op_call 2 (some 18) 15 #[.agg (arr .u8 job), .agg #[.int .i64 ph, .int .i64 rr, .int .i64 ad, .int .u64 tm, .int .i64 ix]] rfl rfl rfl rfl (enters_of Tryz.func15 (by kernel_rfl) rfl) (by simp [Act.eval])
    (place_any job hk hkb ph rr ad tm ix _ (hL.2.1.below (HLW c0_0) hL.2.2.2.1) (hL.2.2.1.below (HLW c0_0) hL.2.2.2.2)) ?_
  rintro e w1 ⟨rfl, b1⟩
  have c0_1 := c0_0.trans (b1.mono c0_0.size)
  refine ⟨_, rfl, c0_1, ?_⟩
  simp only [Act.put, Z1, Z2, Z3]
  refine Held.one 7 (by kernel_rfl) ?_
  refine Held.op_call 7 (some 23) 16 #[.int .u64 tm, .int .i64 ix] rfl rfl rfl rfl (enters_of Tryz.func16 (by kernel_rfl) rfl) (by simp [Act.eval])
    (nonce_any tm ix ht _) ?_
  rintro e w2 ⟨rfl, b2⟩
  have c0_2 := c0_1.trans (b2.mono c0_1.size)
  refine ⟨_, rfl, c0_2, ?_⟩
  simp only [Act.put, Z1, Z2, Z3]
  refine Held.one 10 (by kernel_rfl) ?_
  refine Held.op_call 10 (some 26) 18 #[.int .i64 size] rfl rfl rfl rfl (enters_of Tryz.func18 (by kernel_rfl) rfl) (by simp [Act.eval])
    (bplain_any size _ hs0 hs8) ?_
  rintro e w9 ⟨rfl, rfl⟩
  rw [HNZ.out]
  refine ⟨_, rfl, c0_2, ?_⟩
  simp only [Act.put, Z1, Z2, Z3]
  refine Held.one 11 (by kernel_rfl) ?_
  refine Held.op_call 11 (some 27) 17 #[.agg #[.int .i64 ph, .int .i64 rr, .int .i64 ad, .int .u64 tm, .int .i64 ix], .int .i64 nz] rfl rfl rfl rfl (enters_of Tryz.func17 (by kernel_rfl) rfl) (by simp [Act.eval])
    (aad_any ph rr ad tm ix nz ht _) ?_
  rintro e w3 ⟨pA, pn, pc, rfl, oa, b3⟩
  have c0_3 := c0_2.trans (b3.mono c0_2.size)
  refine ⟨_, rfl, c0_3, ?_⟩
  simp only [Act.put, Z1, Z2, Z3]
  refine Held.one 13 (by kernel_rfl) ?_
  refine Held.op_call 13 (some 29) 25 #[.agg (arr .u8 (kPlace job ph rr ad)), .agg (arr .u8 (nonce tm ix)), .slice pA pn pc, .slice A n c] rfl rfl rfl rfl (enters_of Tryz.func25 (by kernel_rfl) rfl) (by simp [Act.eval])
    (open_uni (kPlace job ph rr ad) (nonce tm ix) B0 w3.heap.size pA pn pc (kAad ph rr ad tm ix nz) B A n c zs _ (hL.1.below (HLW c0_3)) (Nat.le_trans hB0 (Nat.le_trans bz.size c0_3.size)) (kp_length _ _ _ _) (kp_bytes _ _ _ _) (nonce_length _ _) (nonce_bytes _ _) (arg_of_ownM oa (ownM_len oa)) (by have := ownM_len oa; rw [kAad_length] at this; omega) ⟨h.below ((bz.trans (c0_3.mono bz.size)).mono hB), Nat.le_trans hB (Nat.le_trans bz.size c0_3.size), hf, hc, hcm⟩ hn) ?_
  rintro e w4 ⟨sA, sm, sc, rfl, hsm, os, b4⟩
  have c0_4 := c0_3.trans (b4.mono c0_3.size)
  refine ⟨_, rfl, c0_4, ?_⟩
  simp only [Act.put, Z1, Z2, Z3]
  refine Held.tk (v := .tuple #[.slice sA sm sc, .int .i64 (oE (kPlace job ph rr ad) (nonce tm ix) (kAad ph rr ad tm ix nz) zs)]) 14 (some 15) rfl (Held.y_move rfl rfl) c0_4 ?_
  simp only [Act.put, Z1, Z2, Z3]
  refine Held.tk (v := .slice sA sm sc) 15 (some 30) rfl (Held.y_extract rfl rfl rfl) c0_4 ?_
  simp only [Act.put, Z1, Z2, Z3]
  refine Held.tk (v := .int .i64 (oE (kPlace job ph rr ad) (nonce tm ix) (kAad ph rr ad tm ix nz) zs)) 16 (some 31) rfl (Held.y_extract rfl rfl rfl) c0_4 ?_
  simp only [Act.put, Z1, Z2, Z3]
  refine Held.tk (v := .slice sA sm sc) 17 (some 10) rfl (Held.y_assign rfl rfl) c0_4 ?_
  simp only [Act.put, Z1, Z2, Z3]
  refine Held.tk (v := .int .i64 (oE (kPlace job ph rr ad) (nonce tm ix) (kAad ph rr ad tm ix nz) zs)) 18 (some 11) rfl (Held.y_assign rfl rfl) c0_4 ?_
  simp only [Act.put, Z1, Z2, Z3]
  refine wpAnyH_done (by kernel_rfl) ?_ _
  have dz := bz.trans (c0_4.mono bz.size)
  obtain ⟨E, hE⟩ : ∃ E, oE (kPlace job ph rr ad) (nonce tm ix) (kAad ph rr ad tm ix nz) zs = E := ⟨_, rfl⟩
  obtain ⟨pl, hP⟩ : ∃ pl, oP (kPlace job ph rr ad) (nonce tm ix) (kAad ph rr ad tm ix nz) zs = pl := ⟨_, rfl⟩
  rw [hE]
  rw [hP] at os hsm
  have HEE := Lib.hid hE
  have HP := Lib.hid hP
  clear hE hP
  have hcap : sm ≤ sc := by
    obtain ⟨A2, c2, e, hle, _⟩ := os.form
    injection e with e1 e2 e3
    omega
  by_cases h0 : E = 0
  · subst h0
    have H1 := Lib.hid (show blockOE job ph rr ad tm ix size zs = takesE pl size by rw [blockOE, if_neg (by simp [HS.out]), HNZ.out, HEE.out, if_pos rfl, HP.out])
    have H2 := Lib.hid (show blockOR job ph rr ad tm ix size zs = takesR pl size by rw [blockOR, if_neg (by simp [HS.out]), HNZ.out, HEE.out, if_pos rfl, HP.out])
    have hpi := os.ints hsm.out
    go_wp2_with fail
    refine (takes_any w4.heap.size sA sm sc pl size w4 hpi (Nat.le_refl _) hcap).mono ?_
    rintro e wz ⟨A', n', c', rfl, ho, hw⟩
    have dz := dz.trans (hw.mono dz.size)
    have ho := ho.less (Nat.le_trans bz.size c0_4.size)
    go_wp2_with fail
    exact bodyPost_ret (results_tmp2 rfl _ _ _) rfl ⟨A', n', c', by rw [H1.out]; rfl, by rw [H2.out]; exact ho, dz⟩
  · have H1 := Lib.hid (show blockOE job ph rr ad tm ix size zs = E by rw [blockOE, if_neg (by simp [HS.out]), HNZ.out, HEE.out, if_neg h0])
    have H2 := Lib.hid (show blockOR job ph rr ad tm ix size zs = [] by rw [blockOR, if_neg (by simp [HS.out]), HNZ.out, HEE.out, if_neg h0])
    go_wp2_with fail
    exact bodyPost_ret (results_tmp2 rfl _ _ _) rfl ⟨none, 0, 0, by rw [H1.out]; rfl, by rw [H2.out]; exact OwnR.nil _ _, dz⟩
set_option maxRecDepth 100000 in
set_option maxHeartbeats 16000000 in
theorem opens_any (B0 : Nat) (job : List Int) (hk : job.length = 32) (hkb : ∀ z ∈ job, (Lit.int .u8 z).wf = true) (ph rr ad tm ix : Int) (hp : (Lit.int .i64 ph).wf = true) (hq : (Lit.int .i64 rr).wf = true) (ha : (Lit.int .i64 ad).wf = true) (ht : (Lit.int .u64 tm).wf = true) (hi : (Lit.int .i64 ix).wf = true) (B : Nat) (A : Option Addr) (n c : Nat) (zs : List Int) (size : Int) (w : World) (hL : LaidB B0 w) (hB0 : B0 ≤ w.heap.size) (h : Ints w .u8 B A n zs) (hB : B ≤ w.heap.size) (hf : Flat A c) (hc : n ≤ c) (hcm : c ≤ maxLen) (hn : n ≤ 65552) :
    Calls Tryz.prog 8 #[.agg (arr .u8 job), .agg #[.int .i64 ph, .int .i64 rr, .int .i64 ad, .int .u64 tm, .int .i64 ix], .int .i64 size, .slice A n c] w fun e w' => ∃ A' n' c', e = .returned (.tuple #[.slice A' n' c', .int .i64 (blockOE job ph rr ad tm ix size zs)]) ∧ OwnR w' w.heap.size (.slice A' n' c') (blockOR job ph rr ad tm ix size zs) ∧ Below w.heap.size w w' := by
  by_cases hs : mayS size = true
  · exact opens_may B0 job hk hkb ph rr ad tm ix ht B A n c zs size w hL hB0 h hB hf hc hcm hn hs
  · have hs' : mayS size = false := by simpa using hs
    have H1 := Lib.hid (show blockOE job ph rr ad tm ix size zs = 1 from if_pos hs')
    have H2 := Lib.hid (show blockOR job ph rr ad tm ix size zs = [] from if_pos hs')
    rw [H1.out, H2.out]
    go_enter Tryz.func8, Tryz.ntmps8
    go_wp2_with (first
      | (refine wpList_box_Row (w := w) rfl 22 _ rfl .u8 job rfl hkb ?_; intro u1 ra ga za)
      | (refine wpList_box_blk (w := u1) rfl 25 _ rfl #[.int .i64 ph, .int .i64 rr, .int .i64 ad, .int .u64 tm, .int .i64 ix] rfl ?_; intro u2 qp gb zb; have ra := ra.grown gb (by simp)))
    have bz : Below w.heap.size w u2 := ((Below.refl _ w).grown ga (Nat.le_refl _) (by simp)).grown gb ga.size (by simp)
    clear ga gb za zb
    refine (bmay_any size u2).mono ?_
    rintro e u3 ⟨rfl, rfl⟩
    rw [hs']
    go_wp2_with fail
    exact bodyPost_ret (results_tmp2 rfl _ _ _) rfl ⟨none, 0, 0, rfl, OwnR.nil _ _, bz⟩
end Go.Proofs.YtjelacblnjbfgaaGreatDoor.Rs
namespace Go.Proofs.YtjelacblnjbfgaaGreatDoor.Rs
open Go.RowKit Go.Shelf Go.Proofs.YtjelacblnjbfgaaGreatDoor Mem Held Rc
attribute [local irreducible] wpList wpListIn Calls
set_option maxRecDepth 100000 in
set_option maxHeartbeats 8000000 in
theorem awake10_any (w : World) : Calls Tryz.prog 5 #[] w fun e w' => e = .returned (.bool true) ∧ Below w.heap.size w w' := by
  have HP := Lib.hid (show (packB [⟨false, 1, 0, 0⟩] 2).length = 64 by decide +kernel)
  have HE := Lib.hid (show packE 1 2 = 0 by decide +kernel)
  have HZ := Lib.hid (show sizeV 2 = 80 by decide +kernel)
  have H8 := Lib.hid (show (packB [⟨false, 1, 0, 0⟩] 2).getD 8 0 = 1 by decide +kernel)
  have H32 := Lib.hid (show (packB [⟨false, 1, 0, 0⟩] 2).getD 32 0 = 1 by decide +kernel)
  go_enter Tryz.func5, Tryz.ntmps5
  go_wp2_with (refine wpList_build_rec (w := w) rfl _ rfl ⟨false, 1, 0, 0⟩ rfl ?_; intro w1 q1 g1 z1)
  have i1 : Recs w1 w1.heap.size (some ⟨w.heap.size, 0, none⟩) 1 [⟨false, 1, 0, 0⟩] := recs_of_blk (rs := [⟨false, 1, 0, 0⟩]) (qs := []) (by rw [List.append_nil, flat_one]; exact q1) (fun r hr => by rw [List.mem_singleton.1 hr]; exact ⟨rfl, rfl, rfl⟩)
  have b1 : Below w.heap.size w w1 := (Below.refl _ w).grown g1 (Nat.le_refl _) (by simp)
  refine (packs_any w1.heap.size _ 1 1 _ 2 w1 i1 (Nat.le_refl _)).mono ?_
  rintro e w2 ⟨A', n', c', rfl, hl, o2, b2⟩
  rw [HE.out]
  obtain rfl : n' = 64 := by rw [← hl.out, HP.out]
  have b2 := b1.trans (b2.mono b1.size)
  obtain ⟨zs, hzs⟩ : ∃ zs, packB [⟨false, 1, 0, 0⟩] 2 = zs := ⟨_, rfl⟩
  rw [hzs] at H8 H32 o2 hl
  have i2 := o2.ints hl.out
  obtain ⟨b, off, rfl, hb, hx⟩ := i2.2.2 (by omega)
  clear hzs HP i1 q1 g1 z1 o2 b1
  have c8 := hx 8 (by omega)
  have c32 := hx 32 (by omega)
  rw [H8.out] at c8
  rw [H32.out] at c32
  clear hx i2 H8 H32 hl
  go_wp2_with fail
  refine (size_any 2 w2).mono ?_
  rintro e w3 ⟨rfl, b3⟩
  rw [HZ.out]
  have b3 := b2.trans (b3.mono b2.size)
  go_wp2_with fail
  go_ret
  exact ⟨rfl, b3⟩
end Go.Proofs.YtjelacblnjbfgaaGreatDoor.Rs
namespace Go.Proofs.YtjelacblnjbfgaaGreatDoor.Rs
open Go.RowKit Go.Shelf Go.Proofs.YtjelacblnjbfgaaGreatDoor Mem Held Rc Ky Ae Po
attribute [local irreducible] wpList wpListIn Calls
def blockLaid : List (String × DataW Unit) := [("domino/chacha.start", Rows.laid_domino_chacha_start), ("domino/poly.kept", Rows.laid_domino_poly_kept), ("domino/sha.start", Rows.laid_domino_sha_start), ("domino/sha.words", Rows.laid_domino_sha_words)]
set_option maxRecDepth 100000 in
theorem laid_of {w : World} (h : laidMetH Tryz.prog blockLaid w) : LaidB w.heap.size w := by
  rw [MakeChecks.laidMetH_plain _ _ _ (by kernel_rfl)] at h
  have h1 : Lib.TabIs Tryz.prog w "domino/chacha.start" .u32 Cc.sigma := Lib.tabIs_of_head (e := 57) (n := 4) (zs := Cc.sigma) (t := 144) (g := 1) (by kernel_rfl) (by kernel_rfl) Tryz.underlying144 Tryz.underlying57 (by kernel_rfl) (by kernel_rfl) h
  have h2 : Lib.TabIs Tryz.prog w "domino/poly.kept" .u8 keptI := Lib.tabIs_of_head (e := 5) (n := 16) (zs := keptI) (t := 58) (g := 0) (by kernel_rfl) (by kernel_rfl) Tryz.underlying58 Tryz.underlying5 (by kernel_rfl) (by kernel_rfl) (laidMet.tail h)
  have h4 : Lib.TabIs Tryz.prog w "domino/sha.start" .u32 Sum.H0 := Lib.tabIs_of_head (e := 57) (n := 8) (zs := Sum.H0) (t := 151) (g := 2) (by kernel_rfl) (by kernel_rfl) Tryz.underlying151 Tryz.underlying57 (by kernel_rfl) (by kernel_rfl) (laidMet.tail (laidMet.tail h))
  have h5 : Lib.TabIs Tryz.prog w "domino/sha.words" .u32 Sum.K := Lib.tabIs_of_head (e := 57) (n := 64) (zs := Sum.K) (t := 149) (g := 3) (by kernel_rfl) (by kernel_rfl) Tryz.underlying149 Tryz.underlying57 (by kernel_rfl) (by kernel_rfl) (laidMet.tail (laidMet.tail (laidMet.tail h)))
  have t4 : Sha.Tab w 2 Sum.H0 := Sha.tab_of_var (by kernel_rfl) h4
  have t5 : Sha.Tab w 3 Sum.K := Sha.tab_of_var (by kernel_rfl) h5
  exact ⟨laid_of_two (Sha.tab_of_var (by kernel_rfl) h1) (tabK_of_var (by kernel_rfl) h2), t4, t5, t4.lt, t5.lt⟩
end Go.Proofs.YtjelacblnjbfgaaGreatDoor.Rs
namespace Go.Proofs.YtjelacblnjbfgaaGreatDoor.Mem
open Go.RowKit Go.ChangeShapes Go.WideShapes
def numOf' : Value → Int
  | .int _ z => z
  | _ => 0
theorem open_arr {H : Type} {enc : TypeId × Value → H} {P : Program} {w : World} {base : Nat} {spare : Nat → Bool} {held : Bool} {r : Reach} {b0 n : Nat} {t e : TypeId} {k : IntKind} {v : Value} {d : DataW H} {p : List MemPlace}
    (ht : P.underlying t = some (.array n e)) (he : P.underlying e = some (.int k)) (ce : P.cellsOf e = 1) (ct : P.cellsOf t = n) (hval : Value.okWide P w r b0 t v) (h : DataW.Trod enc P w base spare held t v d p) :
    ∃ zs, v = .agg (arr k zs) ∧ zs.length = n ∧ ∀ z ∈ zs, (Lit.int k z).wf = true := by
  simp only [Value.okWide, ht] at hval
  obtain ⟨cs, rfl, hsz, _⟩ := hval
  obtain ⟨fuel, hf⟩ := h
  simp only [Value.cells] at hf
  obtain ⟨xs, m, _, _, hl, hxl, hel⟩ := DataW.trod_array ht hf
  have hn : cs.toList.length = n := by rw [hl, ct]
  have each : ∀ i (hi : i < cs.toList.length), ∃ z, cs.toList[i] = .int k z ∧ (Lit.int k z).wf = true := by
    intro i hi
    have h1 := hel i (by omega)
    rw [ce, Nat.mul_one, List.getElem?_eq_getElem (by omega)] at h1
    obtain ⟨z, h2, _, h3⟩ := DataW.trod_int he h1
    rw [List.drop_eq_getElem_cons hi] at h2
    simp only [List.take_succ_cons, List.take_zero] at h2
    exact ⟨z, (List.cons.inj h2).1, h3⟩
  refine ⟨cs.toList.map numOf', ?_, by simpa using hn, fun z hz => ?_⟩
  · congr 1
    unfold arr
    rw [List.map_map]
    have : cs.toList.map (Value.int k ∘ numOf') = cs.toList := by
      apply List.ext_getElem
      · simp
      · intro i h1 h2
        obtain ⟨z, hz, _⟩ := each i h2
        rw [List.getElem_map, hz]
        rfl
    rw [this]
  · obtain ⟨v, hv, rfl⟩ := List.mem_map.1 hz
    obtain ⟨i, hi, rfl⟩ := List.mem_iff_getElem.1 hv
    obtain ⟨z, hz', hw⟩ := each i hi
    rw [hz']
    exact hw
end Go.Proofs.YtjelacblnjbfgaaGreatDoor.Mem
namespace Go.Proofs.YtjelacblnjbfgaaGreatDoor.Ky
open Go.RowKit Go.ChangeShapes Go.WideShapes
theorem place_fields : ∃ f0 f1 f2 f3 f4 : Field, Tryz.prog.underlying 25 = some (.struct #[f0, f1, f2, f3, f4]) ∧ (f0.offset = 0 ∧ f0.type = 3) ∧ (f1.offset = 1 ∧ f1.type = 3) ∧ (f2.offset = 2 ∧ f2.type = 3) ∧ (f3.offset = 3 ∧ f3.type = 23) ∧ (f4.offset = 4 ∧ f4.type = 3) :=
  ⟨_, _, _, _, _, Tryz.underlying25, ⟨rfl, rfl⟩, ⟨rfl, rfl⟩, ⟨rfl, rfl⟩, ⟨rfl, rfl⟩, ⟨rfl, rfl⟩⟩
section
variable {H : Type} {enc : TypeId × Value → H} {w : World} {base : Nat} {spare : Nat → Bool} {held : Bool}
theorem field_int {cs : List Value} {j n : Nat} {t : TypeId} {k : IntKind} {x : Option (DataW H × List MemPlace)} (hj : j < cs.length) (ht : Tryz.prog.underlying t = some (.int k)) (h : DataW.trod enc Tryz.prog w base spare held n t ((cs.drop j).take 1) = x) (hx : x.isSome = true) : ∃ z, cs[j]? = some (.int k z) ∧ (Lit.int k z).wf = true := by
  obtain ⟨y, rfl⟩ := Option.isSome_iff_exists.1 hx
  obtain ⟨z, h2, _, h3⟩ := DataW.trod_int ht h
  rw [List.drop_eq_getElem_cons hj] at h2
  simp only [List.take_succ_cons, List.take_zero] at h2
  exact ⟨z, by rw [List.getElem?_eq_getElem hj, (List.cons.inj h2).1], h3⟩
set_option maxRecDepth 100000 in
theorem open_place {r : Reach} {b0 : Nat} {v : Value} {d : DataW H} {p : List MemPlace} (hval : Value.okWide Tryz.prog w r b0 25 v) (h : DataW.Trod enc Tryz.prog w base spare held 25 v d p) :
    ∃ ph rr a t i : Int, v = .agg #[.int .i64 ph, .int .i64 rr, .int .i64 a, .int .u64 t, .int .i64 i] ∧ (Lit.int .i64 ph).wf = true ∧ (Lit.int .i64 rr).wf = true ∧ (Lit.int .i64 a).wf = true ∧ (Lit.int .u64 t).wf = true ∧ (Lit.int .i64 i).wf = true := by
  obtain ⟨f0, f1, f2, f3, f4, hu, ⟨o0, t0⟩, ⟨o1, t1⟩, ⟨o2, t2⟩, ⟨o3, t3⟩, ⟨o4, t4⟩⟩ := place_fields
  obtain ⟨cs, rfl, hsz⟩ := okWide_struct hu hval
  obtain ⟨fuel, hf⟩ := h
  simp only [Value.cells] at hf
  obtain ⟨xs, m, _, _, hl, hxl, hel⟩ := DataW.trod_struct hu hf
  have ci : Tryz.prog.cellsOf 3 = 1 := by kernel_rfl
  have cu : Tryz.prog.cellsOf 23 = 1 := by kernel_rfl
  have c5 : Tryz.prog.cellsOf 25 = 5 := by kernel_rfl
  rw [c5] at hl
  have hx5 : xs.length = 5 := hxl
  have e0 := hel 0 f0 rfl
  have e1 := hel 1 f1 rfl
  have e2 := hel 2 f2 rfl
  have e3 := hel 3 f3 rfl
  have e4 := hel 4 f4 rfl
  rw [o0, t0, ci] at e0
  rw [o1, t1, ci] at e1
  rw [o2, t2, ci] at e2
  rw [o3, t3, cu] at e3
  rw [o4, t4, ci] at e4
  obtain ⟨z0, q0, w0⟩ := field_int (by omega) Tryz.underlying3 e0 (by simp [hx5])
  obtain ⟨z1, q1, w1⟩ := field_int (by omega) Tryz.underlying3 e1 (by simp [hx5])
  obtain ⟨z2, q2, w2⟩ := field_int (by omega) Tryz.underlying3 e2 (by simp [hx5])
  obtain ⟨z3, q3, w3⟩ := field_int (by omega) Tryz.underlying23 e3 (by simp [hx5])
  obtain ⟨z4, q4, w4⟩ := field_int (by omega) Tryz.underlying3 e4 (by simp [hx5])
  refine ⟨z0, z1, z2, z3, z4, ?_, w0, w1, w2, w3, w4⟩
  congr 1
  apply Array.ext'
  apply List.ext_getElem?
  intro i
  match i with
  | 0 => exact q0
  | 1 => exact q1
  | 2 => exact q2
  | 3 => exact q3
  | 4 => exact q4
  | i + 5 => rw [List.getElem?_eq_none (by omega), List.getElem?_eq_none (by simp)]
end
end Go.Proofs.YtjelacblnjbfgaaGreatDoor.Ky
