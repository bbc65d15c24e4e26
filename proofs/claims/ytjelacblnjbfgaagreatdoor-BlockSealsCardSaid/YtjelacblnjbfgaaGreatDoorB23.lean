/-
  The document's own Seal and Open of blocks (package dominoref10), by their contracts.
  What a call of package aead is handed: a slice that reads as bytes.
  The functions length and onceKey of package aead by their contracts: how many bytes there are, in eight bytes; the key of a tag.
  The iterator over parts and their paddings of package aead, by its contract: it hands out each part, and with it as many zeros as are missing up to a multiple of 16.
  A list of slices in a variable, which is appended to: what is known of it, and how it grows: one step of package aead's tagOf.
-/
import Derived.Test.YtjelacblnjbfgaaGreatDoorB14
import Derived.Test.YtjelacblnjbfgaaGreatDoorB20
import Derived.Test.YtjelacblnjbfgaaGreatDoorB22
import Derived.Test.YtjelacblnjbfgaaGreatDoorB8
import Derived.Test.YtjelacblnjbfgaaGreatDoorB19
import Derived.Test.YtjelacblnjbfgaaGreatDoorB16
import Derived.Test.YtjelacblnjbfgaaGreatDoorB15
import Derived.Test.YtjelacblnjbfgaaGreatDoorB11
import Derived.Test.YtjelacblnjbfgaaGreatDoorB3
import Derived.Test.YtjelacblnjbfgaaGreatDoorB9
import Derived.Test.YtjelacblnjbfgaaGreatDoorB1
import Derived.Test.YtjelacblnjbfgaaGreatDoorB6
set_option linter.unusedVariables false
namespace Go.Proofs.YtjelacblnjbfgaaGreatDoor.Rs
open Go.RowKit Go.Shelf Go.Proofs.YtjelacblnjbfgaaGreatDoor Mem Help Go.Proofs.YtjelacblnjbfgaaGreatDoor.Sum Po Ky Ae Hkdf Held Rc
attribute [local irreducible] wpList wpListIn Calls
theorem kp_length (job : List Int) (ph rr ad : Int) : (kPlace job ph rr ad).length = 32 := hkey_length _ _ _
theorem kp_bytes (job : List Int) (ph rr ad : Int) : Bs (kPlace job ph rr ad) := bs_of (hkey_wf _ _ _)
def blockS (job : List Int) (ph rr ad tm ix : Int) (rs : List R) (size : Nat) : List Int :=
  sealed (kPlace job ph rr ad) (nonce tm ix) (kAad ph rr ad tm ix (32 * (size : Int))) (packs (pad rs size))
def oE (key nonce aad b : List Int) : Int := if b.length < 16 then 3 else match opened key nonce aad b with | none => 6 | some _ => 0
def oP (key nonce aad b : List Int) : List Int := if b.length < 16 then [] else (opened key nonce aad b).getD []
theorem ropen_uni (key nonce : List Int) (B : Nat) (A : Option Addr) (n c : Nat) (xs : List Int) (B2 : Nat) (A2 : Option Addr) (n2 c2 : Nat) (ys : List Int) (w : World) (hk : key.length = 32) (hkb : Bs key) (hnl : nonce.length = 12) (hnb : Bs nonce)
    (h : Ints w .u8 B A n xs) (hB : B ≤ w.heap.size) (hn : n ≤ 65536) (h2 : Ints w .u8 B2 A2 n2 ys) (hB2 : B2 ≤ w.heap.size) (hf : Flat A2 c2) (hc2 : n2 ≤ c2) (hn2 : n2 ≤ 65552) :
    Calls Tryz.prog 28 #[.agg (arr .u8 key), .agg (arr .u8 nonce), .slice A n c, .slice A2 n2 c2] w fun e w' => ∃ A' m c', e = .returned (.tuple #[.slice A' m c', .int .i64 (oE key nonce xs ys)]) ∧ Hid ((oP key nonce xs ys).length = m) ∧ Mem.Own w' w.heap.size 5 .u8 (.slice A' m c') (oP key nonce xs ys) ∧ Below w.heap.size w w' := by
  have hl := h2.1
  by_cases hs : n2 < 16
  · refine (ropen_short key nonce A n c A2 n2 c2 w hkb hnb hn hs).mono ?_
    rintro e w' ⟨rfl, hw⟩
    have h1 : oE key nonce xs ys = 3 := if_pos (by omega)
    have h2 : oP key nonce xs ys = [] := if_pos (by omega)
    rw [h1, h2]
    exact ⟨none, 0, 0, rfl, Lib.hid rfl, Own.nil _ _ _ _, hw⟩
  · obtain ⟨q, hq⟩ : ∃ q, n2 = q + 16 := ⟨n2 - 16, by omega⟩
    refine (ropen_any key nonce B A n c xs B2 A2 n2 c2 q ys w hk hkb hnl hnb h hB hn h2 hB2 hf hc2 hq (by omega)).mono ?_
    rintro e w' ⟨hw, ⟨ho, rfl⟩ | ⟨p, A', c', ho, hp, rfl, op⟩⟩
    · have h1 : oE key nonce xs ys = 6 := by rw [oE, if_neg (by omega), ho]
      have h2 : oP key nonce xs ys = [] := by rw [oP, if_neg (by omega), ho]; rfl
      rw [h1, h2]
      exact ⟨none, 0, 0, rfl, Lib.hid rfl, Own.nil _ _ _ _, hw⟩
    · have h1 : oE key nonce xs ys = 0 := by rw [oE, if_neg (by omega), ho]
      have h2 : oP key nonce xs ys = p := by rw [oP, if_neg (by omega), ho]; rfl
      rw [h1, h2]
      exact ⟨A', q, c', rfl, Lib.hid hp, op, hw⟩
def blockOE (job : List Int) (ph rr ad tm ix size : Int) (b : List Int) : Int :=
  if mayS size = false then 1 else if oE (kPlace job ph rr ad) (nonce tm ix) (kAad ph rr ad tm ix (32 * size)) b = 0 then takesE (oP (kPlace job ph rr ad) (nonce tm ix) (kAad ph rr ad tm ix (32 * size)) b) size
  else oE (kPlace job ph rr ad) (nonce tm ix) (kAad ph rr ad tm ix (32 * size)) b
def blockOR (job : List Int) (ph rr ad tm ix size : Int) (b : List Int) : List R :=
  if mayS size = false then [] else if oE (kPlace job ph rr ad) (nonce tm ix) (kAad ph rr ad tm ix (32 * size)) b = 0 then takesR (oP (kPlace job ph rr ad) (nonce tm ix) (kAad ph rr ad tm ix (32 * size)) b) size
  else []
set_option maxRecDepth 100000 in
set_option maxHeartbeats 16000000 in
theorem rseals_bad (job : List Int) (hk : job.length = 32) (hkb : ∀ z ∈ job, (Lit.int .u8 z).wf = true) (ph rr ad tm ix : Int) (ht : (Lit.int .u64 tm).wf = true) (A : Option Addr) (n c : Nat) (size : Int) (w : World) (hs : mayS size = false) :
    Calls Tryz.prog 7 #[.agg (arr .u8 job), .agg #[.int .i64 ph, .int .i64 rr, .int .i64 ad, .int .u64 tm, .int .i64 ix], .slice A n c, .int .i64 size] w fun e w' => e = .returned (.tuple #[.slice none 0 0, .int .i64 1]) ∧ Below w.heap.size w w' := by
  go_enter Tryz.func7, Tryz.ntmps7
  go_wp2_with (first
    | (refine wpList_box_Row (w := w) rfl 22 _ rfl .u8 job rfl hkb ?_; intro u1 ra ga za)
    | (refine wpList_box_blk (w := u1) rfl 25 _ rfl #[.int .i64 ph, .int .i64 rr, .int .i64 ad, .int .u64 tm, .int .i64 ix] rfl ?_; intro u2 qp gb zb; have ra := ra.grown gb (by simp)))
  have bz : Below w.heap.size w u2 := ((Below.refl _ w).grown ga (Nat.le_refl _) (by simp)).grown gb ga.size (by simp)
  clear ga gb za zb
  refine (rpacks_bad A n c size _ hs).mono ?_
  rintro e u3 ⟨rfl, rfl⟩
  go_wp2_with fail
  exact bodyPost_ret (results_tmp2 rfl _ _ _) rfl ⟨rfl, bz⟩
set_option maxRecDepth 100000 in
set_option maxHeartbeats 16000000 in
theorem rseals_long (job : List Int) (hk : job.length = 32) (hkb : ∀ z ∈ job, (Lit.int .u8 z).wf = true) (ph rr ad tm ix : Int) (ht : (Lit.int .u64 tm).wf = true) (A : Option Addr) (n c : Nat) (size : Int) (w : World) (hs : mayS size = true) (hn : size < (n : Int)) :
    Calls Tryz.prog 7 #[.agg (arr .u8 job), .agg #[.int .i64 ph, .int .i64 rr, .int .i64 ad, .int .u64 tm, .int .i64 ix], .slice A n c, .int .i64 size] w fun e w' => e = .returned (.tuple #[.slice none 0 0, .int .i64 5]) ∧ Below w.heap.size w w' := by
  go_enter Tryz.func7, Tryz.ntmps7
  go_wp2_with (first
    | (refine wpList_box_Row (w := w) rfl 22 _ rfl .u8 job rfl hkb ?_; intro u1 ra ga za)
    | (refine wpList_box_blk (w := u1) rfl 25 _ rfl #[.int .i64 ph, .int .i64 rr, .int .i64 ad, .int .u64 tm, .int .i64 ix] rfl ?_; intro u2 qp gb zb; have ra := ra.grown gb (by simp)))
  have bz : Below w.heap.size w u2 := ((Below.refl _ w).grown ga (Nat.le_refl _) (by simp)).grown gb ga.size (by simp)
  clear ga gb za zb
  refine (rpacks_long A n c size _ hs hn).mono ?_
  rintro e u3 ⟨rfl, rfl⟩
  go_wp2_with fail
  exact bodyPost_ret (results_tmp2 rfl _ _ _) rfl ⟨rfl, bz⟩
set_option maxRecDepth 100000 in
set_option maxHeartbeats 16000000 in
theorem rseals_ok (job : List Int) (hk : job.length = 32) (hkb : ∀ z ∈ job, (Lit.int .u8 z).wf = true) (ph rr ad tm ix : Int) (ht : (Lit.int .u64 tm).wf = true) (B : Nat) (A : Option Addr) (n c : Nat) (rs : List R) (size : Nat) (w : World) (h : Recs w B A n rs) (hB : B ≤ w.heap.size) (h1 : 1 ≤ size) (h8 : size ≤ 8) (hn : n ≤ size) :
    Calls Tryz.prog 7 #[.agg (arr .u8 job), .agg #[.int .i64 ph, .int .i64 rr, .int .i64 ad, .int .u64 tm, .int .i64 ix], .slice A n c, .int .i64 (size : Int)] w fun e w' => ∃ A' m c', e = .returned (.tuple #[.slice A' m c', .int .i64 0]) ∧ Hid ((blockS job ph rr ad tm ix rs size).length = m) ∧ Mem.Own w' w.heap.size 5 .u8 (.slice A' m c') (blockS job ph rr ad tm ix rs size) ∧ Below w.heap.size w w' := by
  unfold blockS
  obtain ⟨nz, hnz⟩ : ∃ nz : Int, 32 * (size : Int) = nz := ⟨_, rfl⟩
  obtain ⟨pl, hple⟩ : ∃ pl, packs (pad rs size) = pl := ⟨_, rfl⟩
  rw [hnz, hple]
  have HW := Lib.hid (show IntKind.i64.wrap (32 * (size : Int)) = nz by rw [IntKind.wrap_i64]; omega)
  have HPL := Lib.hid hple
  clear hple
  go_enter Tryz.func7, Tryz.ntmps7
  go_wp2_with (first
    | (refine wpList_box_Row (w := w) rfl 22 _ rfl .u8 job rfl hkb ?_; intro u1 ra ga za)
    | (refine wpList_box_blk (w := u1) rfl 25 _ rfl #[.int .i64 ph, .int .i64 rr, .int .i64 ad, .int .u64 tm, .int .i64 ix] rfl ?_; intro u2 qp gb zb; have ra := ra.grown gb (by simp)))
  have bz : Below w.heap.size w u2 := ((Below.refl _ w).grown ga (Nat.le_refl _) (by simp)).grown gb ga.size (by simp)
  clear ga gb za zb
  refine (rpacks_ok B A n c rs size u2 (h.below (bz.mono hB)) (Nat.le_trans hB bz.size) h1 h8 hn).mono ?_
  rintro e u3 ⟨A1, c1, rfl, op, b3⟩
  have ra := ra.below b3 ra.lt
  have qp := qp.below b3 qp.lt
  have bz := bz.trans (b3.mono bz.size)
  have hpl : (packs (pad rs size)).length = 32 * size := by rw [packs_length, pad_length (by rw [h.1]; exact hn)]
  obtain ⟨n1, hn1e⟩ : ∃ n1, 32 * size = n1 := ⟨_, rfl⟩
  rw [HPL.out, hn1e] at op hpl
  rw [hn1e]
  have hn1 : n1 ≤ 65536 := by omega
  have hpi := op.ints hpl
  have lra := ra.lt
  have lqp := qp.lt
  clear b3 op hnz hn1e h h1 h8 hn hB
  go_wp2_with fail
  refine wp_region_held (S := fun W => Below u3.heap.size u3 W) (by kernel_rfl) ?_
  change wpAnyH _ _ _ _ _ _ _ _ u3.drew
  have c0_0 := (Below.refl u3.heap.size u3).drew
  refine Held.tk (v := .agg (arr .u8 job)) 0 (some 21) rfl (Held.y_load_Row rfl rfl Tryz.underlying22 (by kernel_rfl) hk (fun W hW => ra.below hW lra)) c0_0 ?_
  simp only [Act.put, Z1, Z2, Z3]
  refine Held.tk (v := .agg #[.int .i64 ph, .int .i64 rr, .int .i64 ad, .int .u64 tm, .int .i64 ix]) 1 (some 22) rfl (Held.y_load_blk (n := 5) rfl rfl Tryz.underlying25 rfl (by kernel_rfl) rfl (fun W hW => qp.below hW lqp)) c0_0 ?_
  simp only [Act.put, Z1, Z2, Z3]
  refine Held.tk (v := .pointer (some ⟨u1.heap.size, 3, none⟩)) 3 (some 24) rfl (Held.y_field (k := 3) (s := 0) rfl rfl Tryz.underlying25 rfl (by kernel_rfl) rfl) c0_0 ?_
  simp only [Act.put, Z1, Z2, Z3]
  refine Held.tk (v := .int .u64 tm) 4 (some 25) rfl (Held.y_load rfl rfl (by kernel_rfl) (fun W hW => (qp.below hW lqp).cell rfl)) c0_0 ?_
  simp only [Act.put, Z1, Z2, Z3]
  refine Held.tk (v := .pointer (some ⟨u1.heap.size, 4, none⟩)) 5 (some 26) rfl (Held.y_field (k := 4) (s := 0) rfl rfl Tryz.underlying25 rfl (by kernel_rfl) rfl) c0_0 ?_
  simp only [Act.put, Z1, Z2, Z3]
  refine Held.tk (v := .int .i64 ix) 6 (some 27) rfl (Held.y_load rfl rfl (by kernel_rfl) (fun W hW => (qp.below hW lqp).cell rfl)) c0_0 ?_
  simp only [Act.put, Z1, Z2, Z3]
  refine Held.tk (v := .agg #[.int .i64 ph, .int .i64 rr, .int .i64 ad, .int .u64 tm, .int .i64 ix]) 8 (some 29) rfl (Held.y_load_blk (n := 5) rfl rfl Tryz.underlying25 rfl (by kernel_rfl) rfl (fun W hW => qp.below hW lqp)) c0_0 ?_
  simp only [Act.put, Z1, Z2, Z3]
  refine Held.tk (v := .int .i64 (size : Int)) 9 (some 30) rfl (Held.y_move rfl rfl) c0_0 ?_
  simp only [Act.put, Z1, Z2, Z3]
  refine Held.tk (v := .int .i64 nz) 10 (some 31) rfl (Held.y_int rfl rfl rfl (Held.run_mul 3 .i64 (HW.out))) c0_0 ?_
  simp only [Act.put, Z1, Z2, Z3]
  refine Held.tk (v := .slice A1 n1 c1) 12 (some 33) rfl (Held.y_move rfl rfl) c0_0 ?_
  simp only [Act.put, Z1, Z2, Z3]
  refine Held.one 2 (by kernel_rfl) ?_
  refine Held.op_call 2 (some 23) 21 #[.agg (arr .u8 job), .agg #[.int .i64 ph, .int .i64 rr, .int .i64 ad, .int .u64 tm, .int .i64 ix]] rfl rfl rfl rfl (enters_of Tryz.func21 (by kernel_rfl) rfl) (by simp [Act.eval])
    (rplace_any job hk hkb ph rr ad tm ix _) ?_
  rintro e w1 ⟨rfl, b1⟩
  have c0_1 := c0_0.trans (b1.mono c0_0.size)
  refine ⟨_, rfl, c0_1, ?_⟩
  simp only [Act.put, Z1, Z2, Z3]
  refine Held.one 7 (by kernel_rfl) ?_
  refine Held.op_call 7 (some 28) 22 #[.int .u64 tm, .int .i64 ix] rfl rfl rfl rfl (enters_of Tryz.func22 (by kernel_rfl) rfl) (by simp [Act.eval])
    (rnonce_any tm ix _) ?_
  rintro e w2 ⟨rfl, b2⟩
  have c0_2 := c0_1.trans (b2.mono c0_1.size)
  refine ⟨_, rfl, c0_2, ?_⟩
  simp only [Act.put, Z1, Z2, Z3]
  refine Held.one 11 (by kernel_rfl) ?_
  refine Held.op_call 11 (some 32) 23 #[.agg #[.int .i64 ph, .int .i64 rr, .int .i64 ad, .int .u64 tm, .int .i64 ix], .int .i64 nz] rfl rfl rfl rfl (enters_of Tryz.func23 (by kernel_rfl) rfl) (by simp [Act.eval])
    (raad_any ph rr ad tm ix nz ht _) ?_
  rintro e w3 ⟨pA, pn, pc, rfl, oa, b3⟩
  have c0_3 := c0_2.trans (b3.mono c0_2.size)
  refine ⟨_, rfl, c0_3, ?_⟩
  simp only [Act.put, Z1, Z2, Z3]
  refine Held.one 13 (by kernel_rfl) ?_
  refine Held.op_call 13 (some 34) 20 #[.agg (arr .u8 (kPlace job ph rr ad)), .agg (arr .u8 (nonce tm ix)), .slice pA pn pc, .slice A1 n1 c1] rfl rfl rfl rfl (enters_of Tryz.func20 (by kernel_rfl) rfl) (by simp [Act.eval])
    (rseal_any (kPlace job ph rr ad) (nonce tm ix) w3.heap.size pA pn pc (kAad ph rr ad tm ix nz) u3.heap.size A1 n1 c1 pl _ (kp_length _ _ _ _) (kp_bytes _ _ _ _) (nonce_length _ _) (nonce_bytes _ _) (oa.ints oa.caps.1) (Nat.le_refl _) (by have := oa.caps.1; rw [kAad_length] at this; omega) (hpi.below c0_3) c0_3.size hn1) ?_
  rintro e w4 ⟨sA, sm, sc, rfl, hsm, os, b4⟩
  have c0_4 := c0_3.trans (b4.mono c0_3.size)
  refine ⟨_, rfl, c0_4, ?_⟩
  simp only [Act.put, Z1, Z2, Z3]
  refine Held.tk (v := .slice sA sm sc) 14 (some 35) rfl (Held.y_extract rfl rfl rfl) c0_4 ?_
  simp only [Act.put, Z1, Z2, Z3]
  refine Held.tk (v := .int .i64 0) 15 (some 36) rfl (Held.y_extract rfl rfl rfl) c0_4 ?_
  simp only [Act.put, Z1, Z2, Z3]
  refine Held.tk (v := .slice sA sm sc) 16 (some 8) rfl (Held.y_assign rfl rfl) c0_4 ?_
  simp only [Act.put, Z1, Z2, Z3]
  refine Held.tk (v := .int .i64 0) 17 (some 9) rfl (Held.y_assign rfl rfl) c0_4 ?_
  simp only [Act.put, Z1, Z2, Z3]
  refine wpAnyH_done (by kernel_rfl) ?_ _
  have dz := bz.trans (c0_4.mono bz.size)
  go_wp2_with fail
  exact bodyPost_ret (results_tmp2 rfl _ _ _) rfl ⟨sA, sm, sc, rfl, hsm, os.less (Nat.le_trans bz.size c0_3.size), dz⟩
theorem OwnR.less {w : World} {base b : Nat} {v : Value} {rs : List R} (h : OwnR w base v rs) (hb : b ≤ base) : OwnR w b v rs := by
  rcases h with ⟨h1, h2 | ⟨g, cap, cur, e, hg, hr⟩⟩
  · exact ⟨h1, .inl h2⟩
  · exact ⟨h1, .inr ⟨g, cap, cur, e, Nat.le_trans hb hg, hr⟩⟩
set_option maxRecDepth 100000 in
set_option maxHeartbeats 16000000 in
theorem ropens_may (job : List Int) (hk : job.length = 32) (hkb : ∀ z ∈ job, (Lit.int .u8 z).wf = true) (ph rr ad tm ix : Int) (ht : (Lit.int .u64 tm).wf = true) (B : Nat) (A : Option Addr) (n c : Nat) (zs : List Int) (size : Int) (w : World) (h : Ints w .u8 B A n zs) (hB : B ≤ w.heap.size) (hf : Flat A c) (hc : n ≤ c) (hn : n ≤ 65552) (hs : mayS size = true) :
    Calls Tryz.prog 9 #[.agg (arr .u8 job), .agg #[.int .i64 ph, .int .i64 rr, .int .i64 ad, .int .u64 tm, .int .i64 ix], .int .i64 size, .slice A n c] w fun e w' => ∃ A' n' c', e = .returned (.tuple #[.slice A' n' c', .int .i64 (blockOE job ph rr ad tm ix size zs)]) ∧ OwnR w' w.heap.size (.slice A' n' c') (blockOR job ph rr ad tm ix size zs) ∧ Below w.heap.size w w' := by
  obtain ⟨nz, hnz⟩ : ∃ nz : Int, 32 * size = nz := ⟨_, rfl⟩
  have hb : 1 ≤ size ∧ size ≤ 8 := by simpa [mayS] using hs
  have HW := Lib.hid (show IntKind.i64.wrap (32 * size) = nz by rw [IntKind.wrap_i64]; omega)
  have HNZ := Lib.hid hnz
  have HS := Lib.hid hs
  clear hnz hb
  go_enter Tryz.func9, Tryz.ntmps9
  go_wp2_with (first
    | (refine wpList_box_Row (w := w) rfl 22 _ rfl .u8 job rfl hkb ?_; intro u1 ra ga za)
    | (refine wpList_box_blk (w := u1) rfl 25 _ rfl #[.int .i64 ph, .int .i64 rr, .int .i64 ad, .int .u64 tm, .int .i64 ix] rfl ?_; intro u2 qp gb zb; have ra := ra.grown gb (by simp)))
  have bz : Below w.heap.size w u2 := ((Below.refl _ w).grown ga (Nat.le_refl _) (by simp)).grown gb ga.size (by simp)
  clear ga gb za zb
  refine (may_any size u2).mono ?_
  rintro e u3 ⟨rfl, rfl⟩
  rw [hs]
  clear hs
  have lra := ra.lt
  have lqp := qp.lt
  go_wp2_with fail
  refine wp_region_held (S := fun W => Below u2.heap.size u2 W) (by kernel_rfl) ?_
  change wpAnyH _ _ _ _ _ _ _ _ u2.drew
  have c0_0 := (Below.refl u2.heap.size u2).drew
  refine Held.tk (v := .agg (arr .u8 job)) 0 (some 16) rfl (Held.y_load_Row rfl rfl Tryz.underlying22 (by kernel_rfl) hk (fun W hW => ra.below hW lra)) c0_0 ?_
  simp only [Act.put, Z1, Z2, Z3]
  refine Held.tk (v := .agg #[.int .i64 ph, .int .i64 rr, .int .i64 ad, .int .u64 tm, .int .i64 ix]) 1 (some 17) rfl (Held.y_load_blk (n := 5) rfl rfl Tryz.underlying25 rfl (by kernel_rfl) rfl (fun W hW => qp.below hW lqp)) c0_0 ?_
  simp only [Act.put, Z1, Z2, Z3]
  refine Held.tk (v := .pointer (some ⟨u1.heap.size, 3, none⟩)) 3 (some 19) rfl (Held.y_field (k := 3) (s := 0) rfl rfl Tryz.underlying25 rfl (by kernel_rfl) rfl) c0_0 ?_
  simp only [Act.put, Z1, Z2, Z3]
  refine Held.tk (v := .int .u64 tm) 4 (some 20) rfl (Held.y_load rfl rfl (by kernel_rfl) (fun W hW => (qp.below hW lqp).cell rfl)) c0_0 ?_
  simp only [Act.put, Z1, Z2, Z3]
  refine Held.tk (v := .pointer (some ⟨u1.heap.size, 4, none⟩)) 5 (some 21) rfl (Held.y_field (k := 4) (s := 0) rfl rfl Tryz.underlying25 rfl (by kernel_rfl) rfl) c0_0 ?_
  simp only [Act.put, Z1, Z2, Z3]
  refine Held.tk (v := .int .i64 ix) 6 (some 22) rfl (Held.y_load rfl rfl (by kernel_rfl) (fun W hW => (qp.below hW lqp).cell rfl)) c0_0 ?_
  simp only [Act.put, Z1, Z2, Z3]
  refine Held.tk (v := .agg #[.int .i64 ph, .int .i64 rr, .int .i64 ad, .int .u64 tm, .int .i64 ix]) 8 (some 24) rfl (Held.y_load_blk (n := 5) rfl rfl Tryz.underlying25 rfl (by kernel_rfl) rfl (fun W hW => qp.below hW lqp)) c0_0 ?_
  simp only [Act.put, Z1, Z2, Z3]
  refine Held.tk (v := .int .i64 size) 9 (some 25) rfl (Held.y_move rfl rfl) c0_0 ?_
  simp only [Act.put, Z1, Z2, Z3]
  refine Held.tk (v := .int .i64 nz) 10 (some 26) rfl (Held.y_int rfl rfl rfl (Held.run_mul 3 .i64 (HW.out))) c0_0 ?_
  simp only [Act.put, Z1, Z2, Z3]
  refine Held.tk (v := .slice A n c) 12 (some 28) rfl (Held.y_move rfl rfl) c0_0 ?_
  simp only [Act.put, Z1, Z2, Z3]
  refine Held.one 2 (by kernel_rfl) ?_
  refine Held.op_call 2 (some 18) 21 #[.agg (arr .u8 job), .agg #[.int .i64 ph, .int .i64 rr, .int .i64 ad, .int .u64 tm, .int .i64 ix]] rfl rfl rfl rfl (enters_of Tryz.func21 (by kernel_rfl) rfl) (by simp [Act.eval])
    (rplace_any job hk hkb ph rr ad tm ix _) ?_
  rintro e w1 ⟨rfl, b1⟩
  have c0_1 := c0_0.trans (b1.mono c0_0.size)
  refine ⟨_, rfl, c0_1, ?_⟩
  simp only [Act.put, Z1, Z2, Z3]
  refine Held.one 7 (by kernel_rfl) ?_
  refine Held.op_call 7 (some 23) 22 #[.int .u64 tm, .int .i64 ix] rfl rfl rfl rfl (enters_of Tryz.func22 (by kernel_rfl) rfl) (by simp [Act.eval])
    (rnonce_any tm ix _) ?_
  rintro e w2 ⟨rfl, b2⟩
  have c0_2 := c0_1.trans (b2.mono c0_1.size)
  refine ⟨_, rfl, c0_2, ?_⟩
  simp only [Act.put, Z1, Z2, Z3]
  refine Held.one 11 (by kernel_rfl) ?_
  refine Held.op_call 11 (some 27) 23 #[.agg #[.int .i64 ph, .int .i64 rr, .int .i64 ad, .int .u64 tm, .int .i64 ix], .int .i64 nz] rfl rfl rfl rfl (enters_of Tryz.func23 (by kernel_rfl) rfl) (by simp [Act.eval])
    (raad_any ph rr ad tm ix nz ht _) ?_
  rintro e w3 ⟨pA, pn, pc, rfl, oa, b3⟩
  have c0_3 := c0_2.trans (b3.mono c0_2.size)
  refine ⟨_, rfl, c0_3, ?_⟩
  simp only [Act.put, Z1, Z2, Z3]
  refine Held.one 13 (by kernel_rfl) ?_
  refine Held.op_call 13 (some 29) 28 #[.agg (arr .u8 (kPlace job ph rr ad)), .agg (arr .u8 (nonce tm ix)), .slice pA pn pc, .slice A n c] rfl rfl rfl rfl (enters_of Tryz.func28 (by kernel_rfl) rfl) (by simp [Act.eval])
    (ropen_uni (kPlace job ph rr ad) (nonce tm ix) w3.heap.size pA pn pc (kAad ph rr ad tm ix nz) B A n c zs _ (kp_length _ _ _ _) (kp_bytes _ _ _ _) (nonce_length _ _) (nonce_bytes _ _) (oa.ints oa.caps.1) (Nat.le_refl _) (by have := oa.caps.1; rw [kAad_length] at this; omega) (h.below ((bz.trans (c0_3.mono bz.size)).mono hB)) (Nat.le_trans hB (Nat.le_trans bz.size c0_3.size)) hf hc hn) ?_
  rintro e w4 ⟨sA, sm, sc, rfl, hsm, os, b4⟩
  have c0_4 := c0_3.trans (b4.mono c0_3.size)
  refine ⟨_, rfl, c0_4, ?_⟩
  simp only [Act.put, Z1, Z2, Z3]
  refine Held.tk (v := .tuple #[.slice sA sm sc, .int .i64 (oE (kPlace job ph rr ad) (nonce tm ix) (kAad ph rr ad tm ix nz) zs)]) 14 (some 15) rfl (Held.y_move rfl rfl) c0_4 ?_
  simp only [Act.put, Z1, Z2, Z3]
  refine Held.tk (v := .slice sA sm sc) 15 (some 30) rfl (Held.y_extract rfl rfl rfl) c0_4 ?_
  simp only [Act.put, Z1, Z2, Z3]
  refine Held.tk (v := .int .i64 (oE (kPlace job ph rr ad) (nonce tm ix) (kAad ph rr ad tm ix nz) zs)) 16 (some 31) rfl (Held.y_extract rfl rfl rfl) c0_4 ?_
  simp only [Act.put, Z1, Z2, Z3]
  refine Held.tk (v := .slice sA sm sc) 17 (some 10) rfl (Held.y_assign rfl rfl) c0_4 ?_
  simp only [Act.put, Z1, Z2, Z3]
  refine Held.tk (v := .int .i64 (oE (kPlace job ph rr ad) (nonce tm ix) (kAad ph rr ad tm ix nz) zs)) 18 (some 11) rfl (Held.y_assign rfl rfl) c0_4 ?_
  simp only [Act.put, Z1, Z2, Z3]
  refine wpAnyH_done (by kernel_rfl) ?_ _
  have dz := bz.trans (c0_4.mono bz.size)
  obtain ⟨E, hE⟩ : ∃ E, oE (kPlace job ph rr ad) (nonce tm ix) (kAad ph rr ad tm ix nz) zs = E := ⟨_, rfl⟩
  obtain ⟨pl, hP⟩ : ∃ pl, oP (kPlace job ph rr ad) (nonce tm ix) (kAad ph rr ad tm ix nz) zs = pl := ⟨_, rfl⟩
  rw [hE]
  rw [hP] at os hsm
  have HEE := Lib.hid hE
  have HP := Lib.hid hP
  clear hE hP
  have hcap : sm ≤ sc := by
    obtain ⟨A2, c2, e, hle, _⟩ := os.form
    injection e with e1 e2 e3
    omega
  by_cases h0 : E = 0
  · subst h0
    have H1 := Lib.hid (show blockOE job ph rr ad tm ix size zs = takesE pl size by rw [blockOE, if_neg (by simp [HS.out]), HNZ.out, HEE.out, if_pos rfl, HP.out])
    have H2 := Lib.hid (show blockOR job ph rr ad tm ix size zs = takesR pl size by rw [blockOR, if_neg (by simp [HS.out]), HNZ.out, HEE.out, if_pos rfl, HP.out])
    have hpi := os.ints hsm.out
    go_wp2_with fail
    refine (rtakes_any w4.heap.size sA sm sc pl size w4 hpi (Nat.le_refl _) hcap).mono ?_
    rintro e wz ⟨A', n', c', rfl, ho, hw⟩
    have dz := dz.trans (hw.mono dz.size)
    have ho := ho.less (Nat.le_trans bz.size c0_4.size)
    go_wp2_with fail
    exact bodyPost_ret (results_tmp2 rfl _ _ _) rfl ⟨A', n', c', by rw [H1.out]; rfl, by rw [H2.out]; exact ho, dz⟩
  · have H1 := Lib.hid (show blockOE job ph rr ad tm ix size zs = E by rw [blockOE, if_neg (by simp [HS.out]), HNZ.out, HEE.out, if_neg h0])
    have H2 := Lib.hid (show blockOR job ph rr ad tm ix size zs = [] by rw [blockOR, if_neg (by simp [HS.out]), HNZ.out, HEE.out, if_neg h0])
    go_wp2_with fail
    exact bodyPost_ret (results_tmp2 rfl _ _ _) rfl ⟨none, 0, 0, by rw [H1.out]; rfl, by rw [H2.out]; exact OwnR.nil _ _, dz⟩
set_option maxRecDepth 100000 in
set_option maxHeartbeats 16000000 in
theorem ropens_any (job : List Int) (hk : job.length = 32) (hkb : ∀ z ∈ job, (Lit.int .u8 z).wf = true) (ph rr ad tm ix : Int) (ht : (Lit.int .u64 tm).wf = true) (B : Nat) (A : Option Addr) (n c : Nat) (zs : List Int) (size : Int) (w : World) (h : Ints w .u8 B A n zs) (hB : B ≤ w.heap.size) (hf : Flat A c) (hc : n ≤ c) (hn : n ≤ 65552) :
    Calls Tryz.prog 9 #[.agg (arr .u8 job), .agg #[.int .i64 ph, .int .i64 rr, .int .i64 ad, .int .u64 tm, .int .i64 ix], .int .i64 size, .slice A n c] w fun e w' => ∃ A' n' c', e = .returned (.tuple #[.slice A' n' c', .int .i64 (blockOE job ph rr ad tm ix size zs)]) ∧ OwnR w' w.heap.size (.slice A' n' c') (blockOR job ph rr ad tm ix size zs) ∧ Below w.heap.size w w' := by
  by_cases hs : mayS size = true
  · exact ropens_may job hk hkb ph rr ad tm ix ht B A n c zs size w h hB hf hc hn hs
  · have hs' : mayS size = false := by simpa using hs
    have H1 := Lib.hid (show blockOE job ph rr ad tm ix size zs = 1 from if_pos hs')
    have H2 := Lib.hid (show blockOR job ph rr ad tm ix size zs = [] from if_pos hs')
    rw [H1.out, H2.out]
    go_enter Tryz.func9, Tryz.ntmps9
    go_wp2_with (first
      | (refine wpList_box_Row (w := w) rfl 22 _ rfl .u8 job rfl hkb ?_; intro u1 ra ga za)
      | (refine wpList_box_blk (w := u1) rfl 25 _ rfl #[.int .i64 ph, .int .i64 rr, .int .i64 ad, .int .u64 tm, .int .i64 ix] rfl ?_; intro u2 qp gb zb; have ra := ra.grown gb (by simp)))
    have bz : Below w.heap.size w u2 := ((Below.refl _ w).grown ga (Nat.le_refl _) (by simp)).grown gb ga.size (by simp)
    clear ga gb za zb
    refine (may_any size u2).mono ?_
    rintro e u3 ⟨rfl, rfl⟩
    rw [hs']
    go_wp2_with fail
    exact bodyPost_ret (results_tmp2 rfl _ _ _) rfl ⟨none, 0, 0, rfl, OwnR.nil _ _, bz⟩
def sealB (job : List Int) (ph rr ad tm ix : Int) (rs : List R) (size : Int) : List Int := if mayS size = true ∧ (rs.length : Int) ≤ size then blockS job ph rr ad tm ix rs size.toNat else []
theorem rseals_any (job : List Int) (hk : job.length = 32) (hkb : ∀ z ∈ job, (Lit.int .u8 z).wf = true) (ph rr ad tm ix : Int) (ht : (Lit.int .u64 tm).wf = true) (B : Nat) (A : Option Addr) (n c : Nat) (rs : List R) (size : Int) (w : World) (h : Recs w B A n rs) (hB : B ≤ w.heap.size) :
    Calls Tryz.prog 7 #[.agg (arr .u8 job), .agg #[.int .i64 ph, .int .i64 rr, .int .i64 ad, .int .u64 tm, .int .i64 ix], .slice A n c, .int .i64 size] w fun e w' => ∃ A' m c', e = .returned (.tuple #[.slice A' m c', .int .i64 (packE n size)]) ∧ Hid ((sealB job ph rr ad tm ix rs size).length = m) ∧ Mem.Own w' w.heap.size 5 .u8 (.slice A' m c') (sealB job ph rr ad tm ix rs size) ∧ Below w.heap.size w w' := by
  have hl := h.1
  by_cases hs : mayS size = true
  · have hb : 1 ≤ size ∧ size ≤ 8 := by simpa [mayS] using hs
    by_cases h1 : size < (n : Int)
    · refine (rseals_long job hk hkb ph rr ad tm ix ht A n c size w hs h1).mono ?_
      rintro e w' ⟨rfl, hw⟩
      have HE : packE n size = 5 := by rw [packE, if_neg (by simp [hs]), if_pos h1]
      have HB : sealB job ph rr ad tm ix rs size = [] := by rw [sealB, if_neg (by omega)]
      rw [HE, HB]
      exact ⟨none, 0, 0, rfl, Lib.hid rfl, Own.nil _ _ _ _, hw⟩
    · obtain ⟨q, rfl⟩ : ∃ q : Nat, (q : Int) = size := ⟨size.toNat, by omega⟩
      have HE : packE n (q : Int) = 0 := by rw [packE, if_neg (by simp [hs]), if_neg h1]
      have HB : sealB job ph rr ad tm ix rs (q : Int) = blockS job ph rr ad tm ix rs q := by rw [sealB, if_pos ⟨hs, by omega⟩]; rfl
      rw [HE, HB]
      exact rseals_ok job hk hkb ph rr ad tm ix ht B A n c rs q w h hB (by omega) (by omega) (by omega)
  · have hs' : mayS size = false := by simpa using hs
    refine (rseals_bad job hk hkb ph rr ad tm ix ht A n c size w hs').mono ?_
    rintro e w' ⟨rfl, hw⟩
    have HE : packE n size = 1 := by rw [packE, if_pos hs']
    have HB : sealB job ph rr ad tm ix rs size = [] := by rw [sealB, if_neg (fun h => hs h.1)]
    rw [HE, HB]
    exact ⟨none, 0, 0, rfl, Lib.hid rfl, Own.nil _ _ _ _, hw⟩
end Go.Proofs.YtjelacblnjbfgaaGreatDoor.Rs
namespace Go.Proofs.YtjelacblnjbfgaaGreatDoor.Ae
open Go.RowKit Go.Shelf Go.Proofs.YtjelacblnjbfgaaGreatDoor Mem Help Go.Proofs.YtjelacblnjbfgaaGreatDoor.Sum Po
def Arg (w : World) (B : Nat) (A : Option Addr) (n c : Nat) (zs : List Int) : Prop := Ints w .u8 B A n zs ∧ B ≤ w.heap.size ∧ Flat A c ∧ n ≤ c ∧ c ≤ maxLen
section
variable {w w' : World} {B n c : Nat} {A : Option Addr} {zs : List Int}
theorem Arg.ints (h : Arg w B A n c zs) : Ints w .u8 B A n zs := h.1
theorem Arg.len (h : Arg w B A n c zs) : zs.length = n := h.1.1
theorem Arg.bytes (h : Arg w B A n c zs) : Bs zs := Cha.bs_of_ints h.1
theorem Arg.below (h : Arg w B A n c zs) (hb : Below B w w') : Arg w' B A n c zs := ⟨h.1.below hb, Nat.le_trans h.2.1 hb.size, h.2.2⟩
theorem Arg.more (h : Arg w B A n c zs) {B' : Nat} (hB : B ≤ B') (hB' : B' ≤ w.heap.size) : Arg w B' A n c zs := ⟨h.1.more hB, hB', h.2.2⟩
theorem Arg.nil (w : World) (B : Nat) (hB : B ≤ w.heap.size) : Arg w B none 0 0 [] := ⟨Ints.nil _ _ _ _, hB, .inl rfl, Nat.le_refl _, by simp [maxLen]⟩
theorem Arg.front (h : Arg w B A n c zs) {m : Nat} (hm : m ≤ n) : Arg w B A m c (zs.take m) := ⟨h.1.front hm, h.2.1, h.2.2.1, Nat.le_trans hm h.2.2.2.1, h.2.2.2.2⟩
end
theorem arg_of_own {w : World} {base : Nat} {A : Option Addr} {n c : Nat} {zs : List Int} (h : Mem.Own w base 5 .u8 (.slice A n c) zs) (hn : zs.length = n) : Arg w w.heap.size A n c zs := by
  have hf := h.flat
  obtain ⟨_, _, ev, h1, h2, hi⟩ := h.form
  rw [hn] at ev h1 hi
  cases ev
  exact ⟨hi, Nat.le_refl _, hf, h1, h2⟩
theorem arg_of_row {w : World} {a : Option Addr} {len cap : Nat} {zs : List Int}
    (h : (a = none ∧ len = 0 ∧ cap = 0 ∧ zs = []) ∨
      ∃ x, a = some x ∧ len ≤ cap ∧ cap ≤ maxLen ∧ zs.length = cap ∧ (∀ i, i < zs.length → w.cell? (x.add i) = some (.int .u8 (zs.getD i 0))) ∧ ∀ n ∈ zs, (Lit.int .u8 n).wf = true) : Arg w w.heap.size a len cap (zs.take len) :=
  ⟨(ints_of_row h).1, Nat.le_refl _, flat_of_row h, (ints_of_row h).2⟩
end Go.Proofs.YtjelacblnjbfgaaGreatDoor.Ae
namespace Go.Proofs.YtjelacblnjbfgaaGreatDoor.Ae
open Go.RowKit Go.Shelf Go.Proofs.YtjelacblnjbfgaaGreatDoor Mem Help Go.Proofs.YtjelacblnjbfgaaGreatDoor.Sum Po
attribute [local irreducible] wpList wpListIn
set_option maxRecDepth 100000 in
set_option maxHeartbeats 4000000 in
theorem length_any (A : Option Addr) (n c : Nat) (w : World) (hn : n ≤ 1099511627776) :
    Calls Tryz.prog 58 #[.slice A n c] w fun e w' => ∃ g, e = .returned (.slice (some ⟨g, 0, none⟩) 8 8) ∧ w.heap.size ≤ g ∧ Row w' g 5 .u8 (digits (n : Int) 8) ∧ Below w.heap.size w w' := by
  have h0 : (0 : Int) ≤ (n : Int) := by omega
  have hn56 : (n : Int) < 72057594037927936 := by omega
  have HL := Lib.hid (digits_length 8 (n : Int))
  go_enter Tryz.func58, Tryz.ntmps58
  go_wp2_with (refine wpList_make_Row w rfl _ _ 27 rfl 5 .u8 1 Tryz.underlying27 info_u8 .i64 .i64 _ _ 8 rfl rfl rfl rfl (by omega) (by omega) ?_; intro w1 r1 g1 z1)
  have b1 : Below w.heap.size w w1 := (Below.refl _ w).grown g1 (Nat.le_refl _) (by simp)
  clear g1 z1
  go_loopw [8] (fun i wr => ∃ k : Nat, k ≤ 8 ∧ i = .int .i64 k ∧ Below w.heap.size w wr ∧ Row wr w.heap.size 5 .u8 (blend (digits (n : Int) 8) (List.replicate 8 0) k)) (fun i _ => 8 - (intOf i).toNat)
  case atStart => exact ⟨0, by omega, rfl, b1, by rw [blend_zero]; exact r1⟩
  case round =>
    clear b1 r1
    obtain ⟨k, hk, rfl, hbl, kr⟩ := hrel
    have hLen : (digits (n : Int) 8).length = (List.replicate 8 (0 : Int)).length := by rw [HL.out]; simp
    by_cases hlt : k < 8
    · have hlt' : (k : Int) < 8 := by omega
      have hk0 : (0 : Int) ≤ (k : Int) := by omega
      have hset := blend_set hLen (i := k) (by simpa using hlt)
      have HB := Lib.hid (show (blend (digits (n : Int) 8) (List.replicate 8 0) k).length = 8 by rw [blend_length hLen]; simp)
      have W2 : IntKind.i64.wrap (8 * (k : Int)) = ((8 * k : Nat) : Int) := by rw [IntKind.wrap_i64]; omega
      obtain ⟨S0, S1⟩ := shifted_lt h0 hn56 k
      have HBY := Lib.hid (byte_at (n : Int) hlt)
      obtain ⟨q, hq⟩ : ∃ q, (n : Int) / 2 ^ (8 * k) = q := ⟨_, rfl⟩
      rw [hq] at S0 S1 HBY
      have HQ := Lib.hid hq
      clear hq
      have W4 : IntKind.u8.wrap q = (digits (n : Int) 8).getD k 0 := by rw [← HBY.out, IntKind.wrap_u8]
      have HWF := Lib.hid (bs_wf (digits_bytes 8 (n : Int)) _ (digit_mem (n : Int) hlt))
      obtain ⟨z, hz⟩ : ∃ z, (digits (n : Int) 8).getD k 0 = z := ⟨_, rfl⟩
      rw [hz] at W4 HWF hset
      have HSET := Lib.hid hset
      clear hset hz hLen
      go_wp2_with (first
        | (refine wpList_shr rfl 3 3 _ _ rfl .i64 .i64 (n : Int) q (8 * k) rfl (by simp [Act.eval]) (by simp [IntKind.bits]; omega) HQ.out ?_)
        | (refine wpList_store_elem (w := wr) rfl 5 _ _ rfl w.heap.size k rfl 5 .u8 _ z rfl kr (by rw [HB.out]; exact hlt) info_u8 HWF.out ?_; intro w2 q2 g2 z2; rw [HSET.out] at q2))
      go_roundw
      case rel => exact ⟨k + 1, by omega, by go_num, hbl.grown g2 hbl.size (fun r e => by cases e; omega), q2⟩
      case measure => simp [intOf]; omega
    · have hk8 : k = 8 := by omega
      subst hk8
      have hz : blend (digits (n : Int) 8) (List.replicate 8 0) 8 = digits (n : Int) 8 := blend_all (F := digits (n : Int) 8) (a := List.replicate 8 0) hLen
      rw [hz] at kr
      clear hz hLen hlt
      go_wp2_with fail
      go_ret
      exact ⟨_, rfl, Nat.le_refl _, kr, hbl⟩
theorem zero_64b : (Tryz.prog.info? 88).bind (·.zero) = some (.agg (arr .u8 (List.replicate 64 0))) := by kernel_rfl
theorem info_64b : (Tryz.prog.info? 88).map (·.size) = some 64 := by kernel_rfl
set_option maxRecDepth 100000 in
set_option maxHeartbeats 4000000 in
theorem once_any (key nonce : List Int) (w : World) (hk : key.length = 32) (hkb : Bs key) (hnl : nonce.length = 12) (hnb : Bs nonce) (hT : Sha.Tab w 1 Cc.sigma) :
    Calls Tryz.prog 60 #[.agg (arr .u8 key), .agg (arr .u8 nonce)] w fun e w' => e = .returned (.agg (arr .u8 (macKey key nonce))) ∧ Below w.heap.size w w' := by
  have HK := Lib.hid hk
  have HN := Lib.hid hnl
  have HBL := Lib.hid (Cc.block_length key 0 nonce)
  have HBW := Lib.hid (bs_wf (Cc.block_bytes key 0 nonce))
  have HML := Lib.hid (macKey_length key nonce)
  have HMW := Lib.hid (bs_wf (macKey_bytes key nonce))
  clear hk hnl
  go_enter Tryz.func60, Tryz.ntmps60
  go_wp2_with (first
    | (refine wpList_box_Row (w := w) rfl 22 _ rfl .u8 key rfl (bs_wf hkb) ?_; intro w1 r1 g1 z1)
    | (refine wpList_box_Row (w := w1) rfl 45 _ rfl .u8 nonce rfl (bs_wf hnb) ?_; intro w2 r2 g2 z2; have p2 := r1.grown g2 (by simp))
    | (refine wpList_alloc_Row (w := w2) rfl 22 rfl .u8 32 zero_32b ?_; intro w3 r3 g3 z3; have p3 := p2.grown g3 (by simp); have q3 := r2.grown g3 (by simp))
    | (refine wpList_load_Row (w := w3) rfl 22 _ rfl w.heap.size rfl 22 .u8 _ p3 32 5 Tryz.underlying22 size_32b HK.out ?_)
    | (refine wpList_load_Row (w := w3) rfl 45 _ rfl w1.heap.size rfl 45 .u8 _ q3 12 5 Tryz.underlying45 size_12b HN.out ?_))
  obtain ⟨gr, hgr⟩ : ∃ g, w2.heap.size = g := ⟨_, rfl⟩
  have s1 := g1.size
  have s2 := g2.size
  have l3 := r3.lt
  have b3 : Below w.heap.size w w3 := (((Below.refl _ w).grown g1 (Nat.le_refl _) (by simp)).grown g2 (by omega) (by simp)).grown g3 (by omega) (by simp)
  have hwr : w.heap.size ≤ gr := by omega
  rw [hgr] at r3 ⊢
  clear hgr r1 p2 p3 q3 r2 g1 g2 g3 z1 z2 z3 s1 s2
  refine (Cha.block_any key nonce 0 w3 HK.out hkb HN.out hnb (by unfold R32; omega) (hT.below b3 hT.lt)).mono ?_
  rintro e w4 ⟨rfl, hb4⟩
  have b4 := b3.trans (hb4.mono b3.size)
  have r4 := r3.below hb4 r3.lt
  clear hb4 b3 r3
  go_wp2_with (first
    | (refine wpList_alloc_Row (w := w4) rfl 88 rfl .u8 64 zero_64b ?_; intro w5 r5 g5 z5)
    | (refine wpList_store_RowTo (w := w5) rfl 88 _ _ rfl w4.heap.size rfl 88 .u8 _ (Cc.block key 0 nonce) rfl r5 64 info_64b HBL.out (by simp) HBW.out ?_; intro w6 r6 g6 z6; have hsl : ∀ W, (Instr.sliceAt 88 (.pointer (some ⟨w4.heap.size, 0, none⟩)) none (some (.int .i64 32)) none).run Tryz.prog W = .ok (.slice (some ⟨w4.heap.size, 0, none⟩) 32 64) W := fun W => Held.run_slice_arr_h (P := Tryz.prog) 88 5 64 w4.heap.size 32 W Tryz.underlying88 (by kernel_rfl) (by omega) (by omega))
    | (refine wpList_arrayAt rfl 22 _ rfl _ 32 64 32 5 rfl Tryz.underlying22 (by omega) ?_)
    | (refine wpList_load_midRow (w := w6) rfl 22 _ rfl w4.heap.size 0 rfl 88 .u8 _ r6 32 5 Tryz.underlying22 size_32b (by rw [HBL.out]; omega) ?_; have e6 := (r4.grown g5 (by simp)).grown g6 (by intro e; injection e with e; have := r4.lt; omega); rw [List.drop_zero, show (Cc.block key 0 nonce).take 32 = macKey key nonce from rfl])
    | (refine wpList_store_RowTo (w := w6) rfl 22 _ _ rfl gr rfl 22 .u8 _ (macKey key nonce) rfl e6 32 size_32b HML.out (by simp) HMW.out ?_; intro w7 r7 g7 z7))
  have s4 := b4.size
  have b7 : Below w.heap.size w w7 := ((b4.grown g5 s4 (by simp)).grown g6 (by have := g5.size; omega) (fun r e => by cases e; omega)).grown g7 (by have := g5.size; have := g6.size; omega) (fun r e => by cases e; omega)
  refine bodyPost_ret (results_Row rfl _ _ gr _ _ _ rfl r7 32 5 Tryz.underlying22 size_32b HML.out) rfl ?_
  exact ⟨rfl, b7⟩
end Go.Proofs.YtjelacblnjbfgaaGreatDoor.Ae
namespace Go.Proofs.YtjelacblnjbfgaaGreatDoor.Ae
open Go.RowKit Go.Shelf Go.Proofs.YtjelacblnjbfgaaGreatDoor Mem Help Go.Proofs.YtjelacblnjbfgaaGreatDoor.Sum Po Go.Proofs.YtjelacblnjbfgaaGreatDoor.Range Sha
attribute [local go_sem] Oper.semAt_some
attribute [local irreducible] wpList wpListIn
theorem wpListIn_make_Row {F : Fence} {N : Nat} {P : Program} (w : World) {ops : Array Oper} {rest : List Oper} {o : Oper} {a : Act} {Q : Exit → Act → World → Prop} (hg : o.guard = none) (l c : Operand) (t : TypeId) (hop : o.op = Op.makeSlice t l c)
    (e : TypeId) (k : IntKind) (bytes : Nat) (ht : P.underlying t = some (.slice e)) (hinfo : (P.info? e).map (fun i => (i.zero, i.size, i.bytes)) = some (some (.int k 0), 1, bytes))
    (kl kc : IntKind) (n : Nat) (hl : a.eval l = .int kl (n : Int)) (hc : a.eval c = .int kc (n : Int)) (hby : bytes ≤ 8) (hn : n ≤ 17592186044416)
    (hK : ∀ w', Row w' w.heap.size e k (List.replicate n 0) → w.grownBy w' none → Hid (w'.heap.size = w.heap.size + 1) → wpListIn F N P ops Q rest (a.put o.dst (.slice (some ⟨w.heap.size, 0, none⟩) n n)) w') :
    wpListIn F N P ops Q (o :: rest) a w := by
  obtain ⟨i, hi, hz, hs, hb⟩ := info_parts hinfo
  refine wpListIn_plain hg fun K hK' => ?_
  have hrun := run_make_row (P := P) t e i (.int k 0) ht hi hz hs rfl kl kc n (by rw [hb]; exact Nat.le_trans (Nat.mul_le_mul hby hn) (by omega)) (by omega) w
  unfold Oper.wpIn
  refine ⟨?_, ?_⟩
  · simp [Oper.about, hop]
  · rw [Oper.semAt_plain F _ _ (by rw [hop]; intro c hc'; cases hc')]
    simp [execOp, hop, hl, hc, hrun, Result.andThen]
    refine hK' _ _ (hK _ ?_ (World.grownBy_alloc w _ none) (Lib.hid (by simp)))
    rw [made_zeros]
    exact Row.new w e (fun z hz => by rw [List.eq_of_mem_replicate hz]; cases k <;> decide)
theorem paddings_any (A : Option Addr) (m c : Nat) (w : World) :
    Calls Tryz.prog 57 #[.slice A m c] w fun e w' => e = .returned (.func (.func 79) #[] #[.pointer (some ⟨w.heap.size, 0, none⟩)]) ∧ w' = w.alloc (.cells #[.slice A m c] 89) := by
  go_enter Tryz.func57, Tryz.ntmps57
  go_wp2
  go_ret
  exact ⟨rfl, rfl⟩
def ValsA (w : World) (S : Nat → Prop) (A : Option Addr) (n : Nat) (vs : List Value) : Prop :=
  vs.length = n ∧ (0 < n → ∃ b off, A = some ⟨b, off, none⟩ ∧ ¬ S b ∧ ∀ i, i < n → w.cell? ⟨b, off + i, none⟩ = some (vs.getD i undef))
theorem ValsA.only {S : Nat → Prop} {w w' : World} {A : Option Addr} {n : Nat} {vs : List Value} (h : ValsA w S A n vs) (ho : Only S w w') : ValsA w' S A n vs :=
  ⟨h.1, fun hn => by
    obtain ⟨b, off, e, hb, hc⟩ := h.2 hn
    exact ⟨b, off, e, hb, fun i hi => ho.cell (p := ⟨b, off + i, none⟩) hb (hc i hi)⟩⟩
theorem ValsA.below {S : Nat → Prop} {w w' : World} {A : Option Addr} {n : Nat} {vs : List Value} (h : ValsA w S A n vs) (hb : Below w.heap.size w w') : ValsA w' S A n vs :=
  ⟨h.1, fun hn => by
    obtain ⟨b, off, e, hS, hc⟩ := h.2 hn
    exact ⟨b, off, e, hS, fun i hi => (hb.cell (p := ⟨b, off + i, none⟩) (World.block_lt_of_cell? w _ (hc i hi))).trans (hc i hi)⟩⟩
def Gives (S : Nat → Prop) (x : List Int) (B0 : Nat) (W : World) (args : Array Value) : Prop :=
  ∃ A n c g, args = #[.slice A n c, .slice (some ⟨g, 0, none⟩) (padN n) (padN n)] ∧ n ≤ c ∧ c ≤ maxLen ∧ IntsN W .u8 S A n x ∧ B0 ≤ g ∧ Row W g 5 .u8 (List.replicate (padN n) 0)
theorem padN_int (n : Nat) : ((16 : Int) - (n : Int) % 16) % 16 = (padN n : Int) := by unfold padN; omega
theorem ints_n {S : Nat → Prop} {w w' : World} {k : IntKind} {A : Option Addr} {n : Nat} {zs : List Int} (h : IntsN w k S A n zs) (hb : w.grownBy w' none) : IntsN w' k S A n zs := h.only (Only.of_grown hb (fun r e => by cases e))
set_option maxRecDepth 100000 in
set_option maxHeartbeats 2000000 in
theorem paddings_give (n bx : Nat) (S : Nat → Prop) (A : Option Addr) (m c : Nat) (vs : List Value) (xss : List (List Int)) (w : World) (hbx : w.cell? ⟨bx, 0, none⟩ = some (.slice A m c)) (hbS : ¬ S bx) (h : ValsA w S A m vs) (hl : xss.length = m)
    (ht : ∀ i, i < m → ∃ A n c, vs.getD i undef = .slice A n c ∧ n ≤ c ∧ c ≤ maxLen ∧ IntsN w .u8 S A n (xss.getD i [])) (hm : m ≤ 1073741824) :
    SeqGive Fence.wide n Tryz.prog 79 #[.pointer (some ⟨bx, 0, none⟩)] (Gives S) (Only S) xss w := by
  intro l J W hW hJ hY h0
  have kbx := (hW.cell (p := ⟨bx, 0, none⟩) (World.block_lt_of_cell? w _ hbx)).trans hbx
  have kv := h.below hW
  have kt : ∀ i, i < m → ∃ A n c, vs.getD i undef = .slice A n c ∧ n ≤ c ∧ c ≤ maxLen ∧ IntsN W .u8 S A n (xss.getD i []) := fun i hi => by
    obtain ⟨A', n', c', h1, h2, h3, h4⟩ := ht i hi
    exact ⟨A', n', c', h1, h2, h3, h4.only (Only.of_below hW)⟩
  have HL := Lib.hid hl
  have hmi : (m : Int) ≤ 1073741824 := by omega
  clear hbx h ht hl
  refine callsIn_of_wp Tryz.func79 rfl trivial ?_ rfl
  simp only [Tryz.ntmps79, List.size_toArray, List.length_cons, List.length_nil, Nat.reduceAdd, Nat.reduceSub, Array.replicate_succ, Array.replicate_zero, List.push_toArray, List.append_toArray, List.nil_append, List.cons_append]
  gi_wp2_with fail
  gi_loopw [8] (fun i wr => ∃ k : Nat, k ≤ m ∧ i = .int .i64 k ∧ J (xss.take k) wr ∧ Only S W wr) (fun i _ => m - (intOf i).toNat)
  case atStart => exact ⟨0, by omega, rfl, by simpa using h0, Only.refl _ _⟩
  case round =>
    obtain ⟨k, hk, rfl, Jk, ok⟩ := hrel
    by_cases hlt : k < m
    · obtain ⟨b, off, rfl, hbS', hc⟩ := (kv.only ok).2 (by omega)
      obtain ⟨A1, n1, c1, hv, hn1, hm1, hi1⟩ := kt k hlt
      have hck := hc k hlt
      rw [hv] at hck
      have i1 := hi1.only ok
      have HP := Lib.hid (show xss.take k ++ [xss.getD k []] = xss.take (k + 1) by rw [List.take_add_one, List.getD_eq_getElem?_getD, List.getElem?_eq_getElem (by rw [HL.out]; exact hlt)]; rfl)
      have hpre : xss.take k ++ [xss.getD k []] <+: xss := by rw [HP.out]; exact List.take_prefix _ _
      have hlt' : (k : Int) < (m : Int) := by omega
      have hk0 : (0 : Int) ≤ (k : Int) := by omega
      have hpn := padN_int n1
      have hp16 := padN_lt n1
      have hm63 : n1 ≤ 9223372036854775807 := by unfold maxLen at hm1; omega
      have W1 : IntKind.i64.wrap ((16 : Int) - (n1 : Int) % 16) = (16 : Int) - (n1 : Int) % 16 := by rw [IntKind.wrap_i64]; omega
      have W2 : Int.tmod (n1 : Int) 16 = (n1 : Int) % 16 := Int.tmod_eq_emod_of_nonneg (by omega)
      have W3 : Int.tmod ((16 : Int) - (n1 : Int) % 16) 16 = (padN n1 : Int) := by rw [Int.tmod_eq_emod_of_nonneg (by omega)]; exact hpn
      generalize xss.getD k [] = x at i1 hi1 HP hpre
      clear hc hv hi1
      gi_wp2_with (first
        | (refine wpListIn_make_Row wr rfl _ _ 27 rfl 5 .u8 1 Tryz.underlying27 info_u8 .i64 .i64 (padN n1) rfl rfl (by omega) (by omega) ?_; intro w2 r2 g2 z2; obtain ⟨fn, tmps, assign, body, hy, hR⟩ := hY (xss.take k) x #[.slice A1 n1 c1, .slice (some ⟨wr.heap.size, 0, none⟩) (padN n1) (padN n1)] wr w2 Jk g2 ⟨A1, n1, c1, wr.heap.size, rfl, hn1, hm1, ints_n i1 g2, Nat.le_refl _, r2⟩ hpre))
      refine ⟨fun h => (by cases h), ?_⟩
      refine hR.mono ?_
      rintro e W4 ⟨rfl, J4, o4⟩
      rw [HP.out] at J4
      have o5 := (ok.trans (Only.of_grown g2 (fun r e => by cases e))).trans o4
      clear hR hy r2 g2 z2 i1 hpre W1 W2 W3 hpn o4 ok hck
      gi_wp2_with fail
      go_roundw
      case rel => exact ⟨k + 1, by omega, by go_num, J4, o5⟩
      case measure => simp [intOf]; omega
    · have hkm : k = m := by omega
      subst hkm
      rw [List.take_of_length_le (by rw [HL.out]; omega)] at Jk
      gi_wp2_with fail
      go_end0
      exact ⟨⟨_, rfl⟩, Jk⟩
end Go.Proofs.YtjelacblnjbfgaaGreatDoor.Ae
namespace Go.Proofs.YtjelacblnjbfgaaGreatDoor.Ae
open Go.RowKit Go.Shelf Go.Proofs.YtjelacblnjbfgaaGreatDoor Mem Help Go.Proofs.YtjelacblnjbfgaaGreatDoor.Sum Po Go.Proofs.YtjelacblnjbfgaaGreatDoor.Range Sha
attribute [local irreducible] wpList wpListIn
theorem info_bytes : (Tryz.prog.info? 27).map (fun i => (i.zero, i.size, i.bytes)) = some (some (.slice none 0 0), 1, 24) := by kernel_rfl
theorem zero_list : (Tryz.prog.info? 89).bind (·.zero) = some (.slice none 0 0) := by kernel_rfl
theorem size_list : (Tryz.prog.info? 89).map (·.size) = some 1 := by kernel_rfl
def blk (A : Option Addr) : Option Nat := A.map (·.block)
theorem blk_own (A : Option Addr) (n c : Nat) : (Value.slice A n c).ownBlock = blk A := by cases A <;> rfl
def Tied (lb : Nat) (A : Option Addr) (b : Nat) : Prop := b = lb ∨ blk A = some b
theorem _root_.Go.Proofs.YtjelacblnjbfgaaGreatDoor.Mem.IntsN.shift {w : World} {k : IntKind} {S S' : Nat → Prop} {A : Option Addr} {n : Nat} {zs : List Int} (h : IntsN w k S A n zs) (hS : ∀ b, ¬ S b → b < w.heap.size → ¬ S' b) : IntsN w k S' A n zs :=
  ⟨h.1, h.2.1, fun hn => by
    obtain ⟨b, off, e, hb, hc⟩ := h.2.2 hn
    exact ⟨b, off, e, hS b hb (World.block_lt_of_cell? w _ (hc 0 hn)), hc⟩⟩
def TextsN (w : World) (S : Nat → Prop) (vs : List Value) (xss : List (List Int)) : Prop :=
  vs.length = xss.length ∧ ∀ i, i < vs.length → ∃ A n c, vs.getD i undef = .slice A n c ∧ n ≤ c ∧ c ≤ maxLen ∧ IntsN w .u8 S A n (xss.getD i [])
section
variable {w w' : World} {S S' : Nat → Prop} {vs us : List Value} {xss yss : List (List Int)}
theorem TextsN.only (h : TextsN w S vs xss) (ho : Only S w w') : TextsN w' S vs xss := ⟨h.1, fun i hi => by obtain ⟨A, n, c, e, h1, h2, hh⟩ := h.2 i hi; exact ⟨A, n, c, e, h1, h2, hh.only ho⟩⟩
theorem TextsN.shift (h : TextsN w S vs xss) (hS : ∀ b, ¬ S b → b < w.heap.size → ¬ S' b) : TextsN w S' vs xss := ⟨h.1, fun i hi => by obtain ⟨A, n, c, e, h1, h2, hh⟩ := h.2 i hi; exact ⟨A, n, c, e, h1, h2, hh.shift hS⟩⟩
theorem TextsN.nil (w : World) (S : Nat → Prop) : TextsN w S [] [] := ⟨rfl, fun i hi => by simp at hi⟩
theorem TextsN.texts (h : TextsN w S vs xss) : Texts w w.heap.size vs xss := ⟨h.1, fun i hi => by obtain ⟨A, n, c, e, h1, h2, hh⟩ := h.2 i hi; exact ⟨A, n, c, e, h1, h2, hh.ints⟩⟩
theorem TextsN.append (h : TextsN w S vs xss) (k : TextsN w S us yss) : TextsN w S (vs ++ us) (xss ++ yss) := by
  refine ⟨by simp [h.1, k.1], fun i hi => ?_⟩
  by_cases q : i < vs.length
  · have := h.2 i q
    simp only [List.getD_eq_getElem?_getD] at this ⊢
    rw [List.getElem?_append_left q, List.getElem?_append_left (by rw [← h.1]; exact q)]
    exact this
  · rw [List.length_append] at hi
    have := k.2 (i - vs.length) (by omega)
    simp only [List.getD_eq_getElem?_getD] at this ⊢
    rw [List.getElem?_append_right (by omega), List.getElem?_append_right (by rw [← h.1]; omega), ← h.1]
    exact this
theorem TextsN.one {A : Option Addr} {n c : Nat} {xs : List Int} (h : IntsN w .u8 S A n xs) (h1 : n ≤ c) (h2 : c ≤ maxLen) : TextsN w S [.slice A n c] [xs] :=
  ⟨rfl, fun i hi => by
    have : i = 0 := by simpa using hi
    subst this
    exact ⟨A, n, c, rfl, h1, h2, h⟩⟩
end
structure Lst (w : World) (Z lb gk gn gr : Nat) (key nonce : List Int) (v0 : Value) (xss : List (List Int)) (A : Option Addr) (n c : Nat) (W : World) : Prop where
  ord : w.heap.size ≤ gk ∧ w.heap.size ≤ gn ∧ w.heap.size ≤ gr ∧ gk < lb ∧ gn < lb ∧ gr < lb ∧ lb < Z
  low : Z ≤ W.heap.size
  cell : W.heap[lb]? = some (.cells #[v0] 89 (0, 0))
  own : ∃ vs, W.ownsRow Z 27 1 (.slice A n c) n vs ∧ TextsN W (Tied lb A) vs xss
  rk : Row W gk 22 .u8 key
  rn : Row W gn 45 .u8 nonce
  rr : Row W gr 58 .u8 (List.replicate 16 0)
  below : Below w.heap.size w W
section
variable {w W W' : World} {Z lb gk gn gr : Nat} {key nonce : List Int} {v0 : Value} {xss yss : List (List Int)} {A : Option Addr} {n c : Nat}
theorem Lst.lt (h : Lst w Z lb gk gn gr key nonce v0 xss A n c W) : ∀ b, blk A = some b → Z ≤ b ∧ b < W.heap.size := fun b e => by
  obtain ⟨vs, ho, _⟩ := h.own
  exact ho.lt b (by rw [blk_own]; exact e)
theorem Lst.cells (h : Lst w Z lb gk gn gr key nonce v0 xss A n c W) : ∀ (b : Nat) (o : Obj), blk A = some b → W.heap[b]? = some o → o.isCells = true := fun b o e ho => by
  obtain ⟨vs, h1, _⟩ := h.own
  rcases h1.2 with ⟨e1, _⟩ | ⟨g, cap, cur, e1, _, hg, _⟩
  · cases e1; cases e
  · cases e1; cases e; rw [hg] at ho; cases ho; rfl
theorem Lst.len (h : Lst w Z lb gk gn gr key nonce v0 xss A n c W) : xss.length = n := by
  obtain ⟨vs, h1, h2⟩ := h.own
  rw [← h2.1]
  simpa using h1.1
theorem Lst.keep (h : Lst w Z lb gk gn gr key nonce v0 xss A n c W) {row : Option Nat} (hg : W.grownBy W' row) (hr : ∀ r, row = some r → Z ≤ r ∧ ∃ o : Obj, W.heap[r]? = some o ∧ o.isCells = false) : Lst w Z lb gk gn gr key nonce v0 xss A n c W' := by
  obtain ⟨o1, o2, o3, o4, o5, o6, o7⟩ := h.ord
  have hne : ∀ b, b < Z → some b ≠ row := fun b hb e => by have := (hr b e.symm).1; omega
  refine ⟨h.ord, Nat.le_trans h.low hg.size, (hg.block lb (Array.getElem?_eq_some_iff.1 h.cell).1 (hne _ o7)).trans h.cell, ?_, h.rk.grown hg (hne _ (by omega)), h.rn.grown hg (hne _ (by omega)), h.rr.grown hg (hne _ (by omega)),
    h.below.grown hg h.below.size (fun r e => by have := (hr r e).1; omega)⟩
  obtain ⟨vs, h1, h2⟩ := h.own
  refine ⟨vs, h1.kept hg ?_, h2.only ⟨hg.size, fun i o _ ho hc => (hg.block i (Array.getElem?_eq_some_iff.1 ho).1 (fun e => ?_)).trans ho⟩⟩
  · rw [blk_own]
    cases hb : blk A with
    | none => exact .inl rfl
    | some b =>
      refine .inr fun e => ?_
      obtain ⟨_, o, ho, hc⟩ := hr b e.symm
      rw [h.cells b o hb ho] at hc
      cases hc
  · obtain ⟨_, o', ho', hc'⟩ := hr i e.symm
    rw [ho] at ho'
    cases ho'
    rw [hc] at hc'
    cases hc'
theorem Lst.grow (h : Lst w Z lb gk gn gr key nonce v0 xss A n c W) (hg : W.grownBy W' none) : Lst w Z lb gk gn gr key nonce v0 xss A n c W' := h.keep hg (fun r e => by cases e)
theorem Lst.append (h : Lst w Z lb gk gn gr key nonce v0 xss A n c W) (hn : n ≤ 1000) (ty : TypeId) (B : Nat) (A2 : Option Addr) (m c2 : Nat) (us : List Value) (hv : Vals W B A2 m us) (hm : m ≤ 1000) (ht : TextsN W (Tied lb A) us yss) :
    ∃ A' c' W', (Builtin.append_ #[89, 89] ty #[.slice A n c, .slice A2 m c2]).run Tryz.prog W = .ok (.slice A' (n + m) c') W' ∧ Lst w Z lb gk gn gr key nonce v0 (xss ++ yss) A' (n + m) c' W' ∧ W.grownBy W' (blk A) := by
  obtain ⟨o1, o2, o3, o4, o5, o6, o7⟩ := h.ord
  obtain ⟨vs, h1, h2⟩ := h.own
  obtain ⟨v', W', hrun, q2, q3, q4⟩ := run_append_vals (P := Tryz.prog) W Z 89 ty 27 (.slice none 0 0) 24 Tryz.underlying89 info_bytes rfl (.slice A n c) n vs h1 B A2 m c2 us hv (by omega) (by omega) h.low
  obtain ⟨A', c', rfl, q5, q6⟩ := Held.row_form q2
  rw [blk_own] at q3
  rw [blk_own, blk_own] at q4
  have hne : ∀ b, b < Z → some b ≠ blk A := fun b hb e => by have := (h.lt b e.symm).1; omega
  refine ⟨A', c', W', hrun, ⟨h.ord, Nat.le_trans h.low q3.size, (q3.block lb (Array.getElem?_eq_some_iff.1 h.cell).1 (hne _ o7)).trans h.cell, ⟨_, q2, ?_⟩, h.rk.grown q3 (hne _ (by omega)), h.rn.grown q3 (hne _ (by omega)), h.rr.grown q3 (hne _ (by omega)),
    h.below.grown q3 h.below.size (fun r e => by have := (h.lt r e).1; omega)⟩, q3⟩
  refine ((h2.append ht).shift (S' := fun b => b = lb ∨ blk A = some b ∨ blk A' = some b) (fun b hb hlt e => ?_)).only (Only.of_grown q3 (fun r e => .inr (.inl e))) |>.shift (fun b hb _ e => hb ?_)
  · rcases e with e | e | e
    · exact hb (.inl e)
    · exact hb (.inr e)
    · rcases q4 with q | q
      · rw [q] at e; exact hb (.inr e)
      · rw [q] at e
        have e : some W.heap.size = some b := e
        injection e with e
        omega
  · rcases e with e | e
    · exact .inl e
    · exact .inr (.inr e)
theorem Lst.store (h : Lst w Z lb gk gn gr key nonce v0 xss A n c W) {v1 : Value} (hc : W'.heap[lb]? = some (.cells #[v1] 89 (0, 0))) (hg : W.grownBy W' (some lb)) : Lst w Z lb gk gn gr key nonce v1 xss A n c W' := by
  obtain ⟨o1, o2, o3, o4, o5, o6, o7⟩ := h.ord
  refine ⟨h.ord, Nat.le_trans h.low hg.size, hc, ?_, h.rk.grown hg (by intro e; injection e with e; omega), h.rn.grown hg (by intro e; injection e with e; omega), h.rr.grown hg (by intro e; injection e with e; omega),
    h.below.grown hg h.below.size (fun r e => by cases e; omega)⟩
  obtain ⟨vs, h1, h2⟩ := h.own
  refine ⟨vs, h1.kept hg ?_, h2.only (Only.of_grown hg (fun r e => by cases e; exact .inl rfl))⟩
  rw [blk_own]
  cases hb : blk A with
  | none => exact .inl rfl
  | some b => exact .inr fun e => by have := (h.lt b hb).1; injection e with e; omega
end
theorem wpListIn_append_list {F : Fence} {N : Nat} {w W : World} {Z lb gk gn gr : Nat} {key nonce : List Int} {v0 : Value} {xss yss : List (List Int)} {A : Option Addr} {n c : Nat} (h : Lst w Z lb gk gn gr key nonce v0 xss A n c W) {ops : Array Oper} {rest : List Oper} {o : Oper} {a : Act} {Q : Exit → Act → World → Prop} (hg : o.guard = none)
    (s x : Operand) (ho : o.op = .call { callee := .builtin .append, args := #[s, x], argTypes := #[89, 89] }) (hs : a.eval s = .slice A n c) (hn : n ≤ 1000) (B : Nat) (A2 : Option Addr) (m c2 : Nat) (us : List Value) (hx : a.eval x = .slice A2 m c2) (hv : Vals W B A2 m us) (hm : m ≤ 1000) (ht : TextsN W (Tied lb A) us yss)
    (hK : ∀ A' c' W', Lst w Z lb gk gn gr key nonce v0 (xss ++ yss) A' (n + m) c' W' → W.grownBy W' (blk A) → wpListIn F N Tryz.prog ops Q rest (a.put o.dst (.slice A' (n + m) c')) W') : wpListIn F N Tryz.prog ops Q (o :: rest) a W := by
  obtain ⟨A', c', W', hrun, hL, hG⟩ := h.append hn o.type B A2 m c2 us hv hm ht
  refine wpListIn_plain hg fun K hK' => ?_
  unfold Oper.wpIn
  refine ⟨?_, ?_⟩
  · simp [Oper.about, ho, resolve, Target.leads, Sem.run_pure]
  · rw [Oper.semAt_plain F _ _ (by rw [ho]; intro c hc'; cases hc')]
    simp [execOp, ho, resolve, invoke, builtin, hs, hx, hrun, Result.andThen]
    exact hK' _ _ (hK _ _ _ hL hG)
theorem op_append_list {w W : World} {Z lb gk gn gr : Nat} {key nonce : List Int} {v0 : Value} {xss yss : List (List Int)} {A : Option Addr} {n c : Nat} (h : Lst w Z lb gk gn gr key nonce v0 xss A n c W) {ops : Array Oper} {Q : Exit → Act → World → Prop} (i : Nat) (d : Option Tmp) {o : Oper} {a : Act} {K : Act → World → Prop} {s x : Operand} (hi : ops[i]? = some o) (hd : o.dst = d) (hw : Region.wanted o (yielded ops a.tmps) = true)
    (ho : o.op = .call { callee := .builtin .append, args := #[s, x], argTypes := #[89, 89] }) (hs : a.eval s = .slice A n c) (hn : n ≤ 1000) (B : Nat) (A2 : Option Addr) (m c2 : Nat) (us : List Value) (hx : a.eval x = .slice A2 m c2) (hv : Vals W B A2 m us) (hm : m ≤ 1000) (ht : TextsN W (Tied lb A) us yss)
    (hK : ∀ A' c' W', Lst w Z lb gk gn gr key nonce v0 (xss ++ yss) A' (n + m) c' W' → W.grownBy W' (blk A) → K (a.put d (.slice A' (n + m) c')) W') : wpOp Tryz.prog ops Q i K a W := by
  subst hd
  obtain ⟨A', c', W', hrun, hL, hG⟩ := h.append hn o.type B A2 m c2 us hv hm ht
  refine Held.op_wp i hi hw ?_
  exact Lib.wp_append_run W s x 89 89 ho _ _ hs hx _ W' hrun (hK _ _ _ hL hG)
end Go.Proofs.YtjelacblnjbfgaaGreatDoor.Ae
