/-
  The functions mixed and Block of package chacha by their contracts. Conditions: a key of 32 bytes, a nonce of 12, a counter of 32 bits; the table of package chacha lies where the program's text lays it.
-/
import Derived.Test.YtejgnjnmlojdpaaDoorCh3
import Derived.Test.YtejgnjnmlojdpaaDoorHeldI
namespace Go.Proofs.YtejgnjnmlojdpaaDoor.Cha
open Go.RowKit Go.Shelf Go.Proofs.YtejgnjnmlojdpaaDoor.Mem Go.Proofs.YtejgnjnmlojdpaaDoor.Help Go.Proofs.YtejgnjnmlojdpaaDoor.Sum Go.Proofs.YtejgnjnmlojdpaaDoor.Cc Go.Proofs.YtejgnjnmlojdpaaDoor.Sha Go.Proofs.YtejgnjnmlojdpaaDoor
set_option linter.unusedVariables false
attribute [local irreducible] wpList wpListIn

theorem sixteen_out {s : List Int} (h : s.length = 16) : ∃ a0 a1 a2 a3 a4 a5 a6 a7 a8 a9 a10 a11 a12 a13 a14 a15, s = [a0, a1, a2, a3, a4, a5, a6, a7, a8, a9, a10, a11, a12, a13, a14, a15] := by
  rcases s with _ | ⟨a0, _ | ⟨a1, _ | ⟨a2, _ | ⟨a3, _ | ⟨a4, _ | ⟨a5, _ | ⟨a6, _ | ⟨a7, _ | ⟨a8, _ | ⟨a9, _ | ⟨a10, _ | ⟨a11, _ | ⟨a12, _ | ⟨a13, _ | ⟨a14, _ | ⟨a15, _ | ⟨a16, s⟩⟩⟩⟩⟩⟩⟩⟩⟩⟩⟩⟩⟩⟩⟩⟩⟩ <;> first | (simp at h; done) | exact ⟨_, _, _, _, _, _, _, _, _, _, _, _, _, _, _, _, rfl⟩
theorem columns_list (a0 a1 a2 a3 a4 a5 a6 a7 a8 a9 a10 a11 a12 a13 a14 a15 : Int) : columns [a0, a1, a2, a3, a4, a5, a6, a7, a8, a9, a10, a11, a12, a13, a14, a15] =
    [(qr a0 a4 a8 a12).1, (qr a1 a5 a9 a13).1, (qr a2 a6 a10 a14).1, (qr a3 a7 a11 a15).1, (qr a0 a4 a8 a12).2.1, (qr a1 a5 a9 a13).2.1, (qr a2 a6 a10 a14).2.1, (qr a3 a7 a11 a15).2.1,
     (qr a0 a4 a8 a12).2.2.1, (qr a1 a5 a9 a13).2.2.1, (qr a2 a6 a10 a14).2.2.1, (qr a3 a7 a11 a15).2.2.1, (qr a0 a4 a8 a12).2.2.2, (qr a1 a5 a9 a13).2.2.2, (qr a2 a6 a10 a14).2.2.2, (qr a3 a7 a11 a15).2.2.2] := by
  unfold columns at4
  rfl
theorem diagonals_list (a0 a1 a2 a3 a4 a5 a6 a7 a8 a9 a10 a11 a12 a13 a14 a15 : Int) : diagonals [a0, a1, a2, a3, a4, a5, a6, a7, a8, a9, a10, a11, a12, a13, a14, a15] =
    [(qr a0 a5 a10 a15).1, (qr a1 a6 a11 a12).1, (qr a2 a7 a8 a13).1, (qr a3 a4 a9 a14).1, (qr a3 a4 a9 a14).2.1, (qr a0 a5 a10 a15).2.1, (qr a1 a6 a11 a12).2.1, (qr a2 a7 a8 a13).2.1,
     (qr a2 a7 a8 a13).2.2.1, (qr a3 a4 a9 a14).2.2.1, (qr a0 a5 a10 a15).2.2.1, (qr a1 a6 a11 a12).2.2.1, (qr a1 a6 a11 a12).2.2.2, (qr a2 a7 a8 a13).2.2.2, (qr a3 a4 a9 a14).2.2.2, (qr a0 a5 a10 a15).2.2.2] := by
  unfold diagonals at4
  rfl

set_option maxRecDepth 100000 in
set_option maxHeartbeats 2000000 in
theorem mixed_any (s : List Int) (w : World) (hs : Sixteen s) :
    Calls Tryd.prog 23 #[.agg (arr .u32 s)] w fun e w' => e = .returned (.agg (arr .u32 (turns 10 s))) ∧ Below w.heap.size w w' := by
  have zero_16 : (Tryd.prog.info? 48).bind (·.zero) = some (.agg (arr .u32 (List.replicate 16 0))) := by kernel_rfl
  have hwf : ∀ z ∈ s, (Lit.int .u32 z).wf = true := fun z hz => wf_32 (hs.2 z hz)
  have HL := Lib.hid hs.1
  have HT := Lib.hid (fun k => (hs.turns k))
  obtain ⟨a0, a1, a2, a3, a4, a5, a6, a7, a8, a9, a10, a11, a12, a13, a14, a15, he⟩ := sixteen_out hs.1
  have H0 : Hid (turns 0 s = [a0, a1, a2, a3, a4, a5, a6, a7, a8, a9, a10, a11, a12, a13, a14, a15]) := Lib.hid he
  have HE := Lib.hid he
  clear he hs
  go_enter Tryd.func23, Tryd.ntmps23
  go_wp2_with (first
    | (refine wpList_box_Row (w := w) rfl 48 _ rfl .u32 s rfl hwf ?_; intro w1 r1 g1 z1)
    | (refine wpList_alloc_Row (w := w1) rfl 48 rfl .u32 16 zero_16 ?_; intro w2 r2 g2 z2))
  have b2 : Below w.heap.size w w2 := ((Below.refl _ w).grown g1 (Nat.le_refl _) (by simp)).grown g2 g1.size (by simp)
  have q1 := r1.grown g2 (by simp)
  obtain ⟨g, hg⟩ : ∃ g, w1.heap.size = g := ⟨_, rfl⟩
  have hgw : w.heap.size < g := by rw [← hg]; exact r1.lt
  rw [hg] at r2 ⊢
  rw [HE.out] at q1
  have c0 := q1.cell (i := 0) (by simp)
  have c1 := q1.cell (i := 1) (by simp)
  have c2 := q1.cell (i := 2) (by simp)
  have c3 := q1.cell (i := 3) (by simp)
  have c4 := q1.cell (i := 4) (by simp)
  have c5 := q1.cell (i := 5) (by simp)
  have c6 := q1.cell (i := 6) (by simp)
  have c7 := q1.cell (i := 7) (by simp)
  have c8 := q1.cell (i := 8) (by simp)
  have c9 := q1.cell (i := 9) (by simp)
  have c10 := q1.cell (i := 10) (by simp)
  have c11 := q1.cell (i := 11) (by simp)
  have c12 := q1.cell (i := 12) (by simp)
  have c13 := q1.cell (i := 13) (by simp)
  have c14 := q1.cell (i := 14) (by simp)
  have c15 := q1.cell (i := 15) (by simp)
  simp only [List.getD_cons_zero, List.getD_cons_succ] at c0 c1 c2 c3 c4 c5 c6 c7 c8 c9 c10 c11 c12 c13 c14 c15
  clear r1 g1 g2 z1 z2 hg
  go_quiet (fail)
  obtain ⟨m1, rfl⟩ : ∃ m1, m1 = nq := ⟨_, rfl⟩
  go_wp2_with fail
  go_quiet (fail)
  obtain ⟨m2, rfl⟩ : ∃ m2, m2 = nq := ⟨_, rfl⟩
  go_wp2_with fail
  go_quiet (fail)
  obtain ⟨m3, rfl⟩ : ∃ m3, m3 = nq := ⟨_, rfl⟩
  go_wp2_with fail
  go_quiet (fail)
  obtain ⟨w3, hw3⟩ : ∃ w3, (((w2.drewN m1).drewN m2).drewN m3).drewN nq = w3 := ⟨_, rfl⟩
  have r3 : Row w3 g 48 .u32 (List.replicate 16 0) := hw3 ▸ r2
  have b3 : Below w.heap.size w w3 := hw3 ▸ below_drewN (below_drewN (below_drewN (below_drewN b2 _) _) _) _
  rw [hw3]
  clear hw3 c0 c1 c2 c3 c4 c5 c6 c7 c8 c9 c10 c11 c12 c13 c14 c15 r2 b2 q1
  go_wp2_with fail
  go_loopw [3, 4, 5, 6, 7, 8, 9, 10, 11, 12, 13, 14, 15, 16, 17, 18, 51] (fun s0 s1 s2 s3 s4 s5 s6 s7 s8 s9 s10 s11 s12 s13 s14 s15 i wr => ∃ k : Nat, k ≤ 10 ∧ i = .int .i64 k ∧ wr = w3 ∧ ∃ a0 a1 a2 a3 a4 a5 a6 a7 a8 a9 a10 a11 a12 a13 a14 a15 : Int, Hid (turns k s = [a0, a1, a2, a3, a4, a5, a6, a7, a8, a9, a10, a11, a12, a13, a14, a15]) ∧ s0 = .int .u32 a0 ∧ s1 = .int .u32 a1 ∧ s2 = .int .u32 a2 ∧ s3 = .int .u32 a3 ∧ s4 = .int .u32 a4 ∧ s5 = .int .u32 a5 ∧ s6 = .int .u32 a6 ∧ s7 = .int .u32 a7 ∧ s8 = .int .u32 a8 ∧ s9 = .int .u32 a9 ∧ s10 = .int .u32 a10 ∧ s11 = .int .u32 a11 ∧ s12 = .int .u32 a12 ∧ s13 = .int .u32 a13 ∧ s14 = .int .u32 a14 ∧ s15 = .int .u32 a15) (fun _ _ _ _ _ _ _ _ _ _ _ _ _ _ _ _ i _ => 10 - (intOf i).toNat)
  case atStart => exact ⟨0, by omega, rfl, rfl, a0, a1, a2, a3, a4, a5, a6, a7, a8, a9, a10, a11, a12, a13, a14, a15, H0, rfl, rfl, rfl, rfl, rfl, rfl, rfl, rfl, rfl, rfl, rfl, rfl, rfl, rfl, rfl, rfl⟩
  case round =>
    clear H0 HE
    obtain ⟨k, hk, rfl, rfl, a0, a1, a2, a3, a4, a5, a6, a7, a8, a9, a10, a11, a12, a13, a14, a15, HK, rfl, rfl, rfl, rfl, rfl, rfl, rfl, rfl, rfl, rfl, rfl, rfl, rfl, rfl, rfl, rfl⟩ := hrel
    have hk0 : (0 : Int) ≤ (k : Int) := by omega
    by_cases hlt : k < 10
    · have hlt' : (k : Int) < 10 := by omega
      have HK1 : Hid (turns (k + 1) s = twice [a0, a1, a2, a3, a4, a5, a6, a7, a8, a9, a10, a11, a12, a13, a14, a15]) := Lib.hid (by show twice (turns k s) = _; rw [HK.out])
      rw [show twice [a0, a1, a2, a3, a4, a5, a6, a7, a8, a9, a10, a11, a12, a13, a14, a15] = diagonals (columns [a0, a1, a2, a3, a4, a5, a6, a7, a8, a9, a10, a11, a12, a13, a14, a15]) from rfl, columns_list, diagonals_list] at HK1
      go_wp2_with fail
      refine (quarter_any _ _ _ _ _).mono ?_
      rintro e w' ⟨rfl, rfl⟩
      go_wp2_with fail
      refine (quarter_any _ _ _ _ _).mono ?_
      rintro e w' ⟨rfl, rfl⟩
      go_wp2_with fail
      refine (quarter_any _ _ _ _ _).mono ?_
      rintro e w' ⟨rfl, rfl⟩
      go_wp2_with fail
      refine (quarter_any _ _ _ _ _).mono ?_
      rintro e w' ⟨rfl, rfl⟩
      go_wp2_with fail
      refine (quarter_any _ _ _ _ _).mono ?_
      rintro e w' ⟨rfl, rfl⟩
      go_wp2_with fail
      refine (quarter_any _ _ _ _ _).mono ?_
      rintro e w' ⟨rfl, rfl⟩
      go_wp2_with fail
      refine (quarter_any _ _ _ _ _).mono ?_
      rintro e w' ⟨rfl, rfl⟩
      go_wp2_with fail
      refine (quarter_any _ _ _ _ _).mono ?_
      rintro e w' ⟨rfl, rfl⟩
      go_wp2_with fail
      go_roundw
      case rel => exact ⟨k + 1, by omega, by go_num, by trivial, _, _, _, _, _, _, _, _, _, _, _, _, _, _, _, _, HK1, rfl, rfl, rfl, rfl, rfl, rfl, rfl, rfl, rfl, rfl, rfl, rfl, rfl, rfl, rfl, rfl⟩
      case measure => simp [intOf]; omega
    · have hk10 : k = 10 := by omega
      subst hk10
      have HT10 := HT.out 10
      have HK10 := HK.out
      clear HT
      rw [HK10] at HT10
      go_wp2_with (refine wpList_store_RowTo (w := wr) rfl 48 _ _ rfl g rfl 48 .u32 _ [a0, a1, a2, a3, a4, a5, a6, a7, a8, a9, a10, a11, a12, a13, a14, a15] rfl r3 16 info_16 rfl (by simp) (fun z hz => wf_32 (HT10.2 z hz)) ?_; intro w8 q8 g8 z8)
      refine bodyPost_ret (results_Row rfl _ _ g _ _ _ rfl q8 16 23 Tryd.underlying48 info_16 rfl) rfl ?_
      exact ⟨by rw [HK10], b3.grown g8 b3.size (fun r e => by cases e; omega)⟩

theorem upto_put4 {F zs : List Int} {m : Nat} {n : Int} (h : Upto F m zs) (hm : m + 4 ≤ F.length) (h0 : F.getD m 0 = n % 256) (h1 : F.getD (m + 1) 0 = n / 256 % 256) (h2 : F.getD (m + 2) 0 = n / 65536 % 256) (h3 : F.getD (m + 3) 0 = n / 16777216 % 256) : Upto F (m + 4) (put4 zs m n) := by
  unfold put4
  rw [← h0, ← h1, ← h2, ← h3]
  exact (((h.set (by omega)).set (by omega)).set (by omega)).set (by omega)
theorem addI_comm (x y : Int) : addI x y = addI y x := by unfold addI; rw [Int.add_comm]
theorem block_get (key : List Int) (ctr : Int) (nonce : List Int) {i : Nat} (hi : i < 64) : (Cc.block key ctr nonce).getD i 0 = Cc.byteOf (turns 10 (first key ctr nonce)) (first key ctr nonce) i := by simp [Cc.block, List.getD_eq_getElem?_getD, hi]
theorem byteOf_at (v s : List Int) (k j : Nat) (hj : j < 4) : Cc.byteOf v s (4 * k + j) = addI (s.getD k 0) (v.getD k 0) / 2 ^ (8 * j) % 256 := by
  unfold Cc.byteOf
  rw [show (4 * k + j) / 4 = k by omega, show (4 * k + j) % 4 = j by omega, addI_comm]
theorem block_step {key : List Int} {ctr : Int} {nonce zs : List Int} {k : Nat} (hk : k < 16) (h : Upto (Cc.block key ctr nonce) (4 * k) zs) : Upto (Cc.block key ctr nonce) (4 * (k + 1)) (put4 zs (4 * k) (addI ((first key ctr nonce).getD k 0) ((turns 10 (first key ctr nonce)).getD k 0))) := by
  rw [show 4 * (k + 1) = 4 * k + 4 by omega]
  refine upto_put4 (m := 4 * k) h (by rw [block_length]; omega) ?_ ?_ ?_ ?_
  · rw [block_get _ _ _ (by omega)]; have := byteOf_at (turns 10 (first key ctr nonce)) (first key ctr nonce) k 0 (by omega); simpa using this
  · rw [block_get _ _ _ (by omega)]; exact byteOf_at (turns 10 (first key ctr nonce)) (first key ctr nonce) k 1 (by omega)
  · rw [block_get _ _ _ (by omega)]; exact byteOf_at (turns 10 (first key ctr nonce)) (first key ctr nonce) k 2 (by omega)
  · rw [block_get _ _ _ (by omega)]; exact byteOf_at (turns 10 (first key ctr nonce)) (first key ctr nonce) k 3 (by omega)
theorem info_64 : (Tryd.prog.info? 29).map (·.size) = some 64 := by kernel_rfl
theorem zero_64 : (Tryd.prog.info? 29).bind (·.zero) = some (.agg (arr .u8 (List.replicate 64 0))) := by kernel_rfl

set_option maxRecDepth 100000 in
set_option maxHeartbeats 2000000 in
theorem block_any (key nonce : List Int) (ctr : Int) (w : World) (hk : key.length = 32) (hkb : Bs key) (hn : nonce.length = 12) (hnb : Bs nonce) (hc : R32 ctr) (hT : Tab w 0 sigma) :
    Calls Tryd.prog 10 #[.agg (arr .u8 key), .int .u32 ctr, .agg (arr .u8 nonce)] w fun e w' => e = .returned (.agg (arr .u8 (Cc.block key ctr nonce))) ∧ Below w.heap.size w w' := by
  have zero_16 : (Tryd.prog.info? 48).bind (·.zero) = some (.agg (arr .u32 (List.replicate 16 0))) := by kernel_rfl
  have info_32 : (Tryd.prog.info? 22).map (·.size) = some 32 := by kernel_rfl
  have info_12 : (Tryd.prog.info? 24).map (·.size) = some 12 := by kernel_rfl
  have HK := Lib.hid hk
  have HN := Lib.hid hn
  have HS := Lib.hid (sixteen_first hkb hnb hc)
  have HV := Lib.hid ((sixteen_first hkb hnb hc).turns 10)
  have HB := Lib.hid (fun k zs (h1 : k < 16) (h2 : Upto (Cc.block key ctr nonce) (4 * k) zs) => block_step (key := key) (ctr := ctr) (nonce := nonce) h1 h2)
  have HBL := Lib.hid (block_length key ctr nonce)
  have HBW := Lib.hid (block_bytes key ctr nonce)
  clear hk hn
  go_enter Tryd.func10, Tryd.ntmps10
  go_wp2_with (first
    | (refine wpList_box_Row (w := w) rfl 22 _ rfl .u8 key rfl (bs_wf hkb) ?_; intro w1 r1 g1 z1)
    | (refine wpList_box_Row (w := w1) rfl 24 _ rfl .u8 nonce rfl (bs_wf hnb) ?_; intro w2 r2 g2 z2)
    | (refine wpList_alloc_Row (w := w2) rfl 29 rfl .u8 64 zero_64 ?_; intro w3 r3 g3 z3; have k3 := (r1.grown g2 (by simp)).grown g3 (by simp); have n3 := r2.grown g3 (by simp))
    | (refine wpList_load_Row (w := w3) rfl 22 _ rfl w.heap.size rfl 22 .u8 _ k3 32 5 Tryd.underlying22 info_32 HK.out ?_)
    | (refine wpList_load_Row (w := w3) rfl 24 _ rfl w1.heap.size rfl 24 .u8 _ n3 12 5 Tryd.underlying24 info_12 HN.out ?_))
  have b3 : Below w.heap.size w w3 := (((Below.refl _ w).grown g1 (Nat.le_refl _) (by simp)).grown g2 g1.size (by simp)).grown g3 (by have := g1.size; have := g2.size; omega) (by simp)
  obtain ⟨gn, hgn⟩ : ∃ g, w1.heap.size = g := ⟨_, rfl⟩
  obtain ⟨gr, hgr⟩ : ∃ g, w2.heap.size = g := ⟨_, rfl⟩
  have l1 := r1.lt
  have l2 := r2.lt
  have l3 := r3.lt
  rw [hgn] at l1 l2
  rw [hgr] at r3 l2 l3
  rw [hgn, hgr]
  clear hgn hgr r1 r2 g1 g2 g3 z1 z2 z3 k3 n3
  refine (state_any key nonce ctr w3 HK.out hkb HN.out hnb hc (hT.below b3 hT.lt)).mono ?_
  rintro e w4 ⟨rfl, hb4⟩
  have b4 := b3.trans (hb4.mono b3.size)
  have r4 := r3.below hb4 r3.lt
  have l4 := r4.lt
  clear hb4 b3 r3 l3
  obtain ⟨F, hF⟩ : ∃ F, first key ctr nonce = F := ⟨_, rfl⟩
  have HB' := HB.out
  have HS' := HS.out
  have HV' := HV.out
  clear HB HS HV
  rw [hF] at HS' HV' ⊢
  simp only [hF] at HB'
  clear hF
  have HB := Lib.hid HB'
  have HS := Lib.hid HS'
  clear HB' HS'
  go_wp2_with (first
    | (refine wpList_alloc_Row (w := w4) rfl 48 rfl .u32 16 zero_16 ?_; intro w5 r5 g5 z5)
    | (refine wpList_store_RowTo (w := w5) rfl 48 _ _ rfl w4.heap.size rfl 48 .u32 _ F rfl r5 16 info_16 HS.out.1 (by simp) (fun z hz => wf_32 (HS.out.2 z hz)) ?_; intro w6 r6 g6 z6)
    | (refine wpList_load_Row (w := w6) rfl 48 _ rfl w4.heap.size rfl 48 .u32 _ r6 16 23 Tryd.underlying48 info_16 HS.out.1 ?_))
  obtain ⟨gf, hgf⟩ : ∃ g, w4.heap.size = g := ⟨_, rfl⟩
  have b6 : Below w.heap.size w w6 := (b4.grown g5 b4.size (by simp)).grown g6 (by have := b4.size; have := g5.size; omega) (fun r e => by have := b4.size; cases e; omega)
  have q6 := (r4.grown g5 (by simp)).grown g6 (by intro e; injection e with e; omega)
  have l6 := r6.lt
  rw [hgf] at l4 r6 l6 ⊢
  clear hgf r4 r5 g5 g6 z5 z6
  refine (mixed_any F w6 HS.out).mono ?_
  rintro e w7 ⟨rfl, hb7⟩
  have b7 := b6.trans (hb7.mono b6.size)
  have q7 := q6.below hb7 q6.lt
  have f7 := r6.below hb7 r6.lt
  have l7 := f7.lt
  clear hb7 b6 q6 r6 l6
  obtain ⟨V, hV⟩ : ∃ V, turns 10 F = V := ⟨_, rfl⟩
  rw [hV] at HV' ⊢
  have HB' := HB.out
  simp only [hV] at HB'
  clear HB hV
  have HB := Lib.hid HB'
  have HV := Lib.hid HV'
  clear HB' HV'
  go_wp2_with (first
    | (refine wpList_alloc_Row (w := w7) rfl 48 rfl .u32 16 zero_16 ?_; intro w8 r8 g8 z8)
    | (refine wpList_store_RowTo (w := w8) rfl 48 _ _ rfl w7.heap.size rfl 48 .u32 _ V rfl r8 16 info_16 HV.out.1 (by simp) (fun z hz => wf_32 (HV.out.2 z hz)) ?_; intro w9 r9 g9 z9)
    | (refine wpList_alloc_Row (w := w9) rfl 29 rfl .u8 64 zero_64 ?_; intro wa ra ga za; have v9 := r9.grown ga (by simp))
    | (refine wpList_load_Row (w := wa) rfl 48 _ rfl w7.heap.size rfl 48 .u32 _ v9 16 23 Tryd.underlying48 info_16 HV.out.1 ?_))
  obtain ⟨gb, hgb⟩ : ∃ g, w9.heap.size = g := ⟨_, rfl⟩
  have s7 := b7.size
  have s8 := g8.size
  have s9 := g9.size
  have z8' := z8.out
  have ba : Below w.heap.size w wa := ((b7.grown g8 s7 (by simp)).grown g9 (by omega) (fun r e => by cases e; omega)).grown ga (by omega) (by simp)
  have qa := ((q7.grown g8 (by simp)).grown g9 (by intro e; injection e with e; omega)).grown ga (by simp)
  have fa := ((f7.grown g8 (by simp)).grown g9 (by intro e; injection e with e; omega)).grown ga (by simp)
  have lb : gf < w9.heap.size := by omega
  rw [hgb] at lb ra ⊢
  clear hgb r8 r9 v9 g8 g9 ga z8 z9 za z8' s7 s8 s9 q7 f7 l7 b7
  have u0 : Upto (Cc.block key ctr nonce) (4 * 0) (List.replicate 64 0) := ⟨by rw [HBL.out]; simp, fun i hi => by omega⟩
  go_loopw [19] (fun i wr => ∃ k : Nat, k ≤ 16 ∧ i = .int .i64 k ∧ Below w.heap.size w wr ∧ Row wr gr 29 .u8 (List.replicate 64 0) ∧ Row wr gf 48 .u32 F ∧ ∃ zs, Row wr gb 29 .u8 zs ∧ Upto (Cc.block key ctr nonce) (4 * k) zs) (fun i _ => 16 - (intOf i).toNat)
  case atStart => exact ⟨0, by omega, rfl, ba, qa, fa, _, ra, u0⟩
  case round =>
    clear ba qa fa ra u0
    obtain ⟨k, hk, rfl, hbl, qr, fr, zs, br, hu⟩ := hrel
    have hk0 : (0 : Int) ≤ (k : Int) := by omega
    by_cases hlt : k < 16
    · have hlt' : (k : Int) < 16 := by omega
      have hidx : ∀ W, (Instr.index 48 (.agg (arr .u32 V)) (.int .i64 (k : Int))).run Tryd.prog W = .ok (.int .u32 (V.getD k 0)) W := fun W => run_index_arr _ 23 16 .u32 V k W Tryd.underlying48 (by kernel_rfl) (by kernel_rfl) HV.out.1 hlt
      have hsl : ∀ W, (Instr.sliceAt 29 (.pointer (some ⟨gb, 0, none⟩)) (some (.int .i64 (4 * (k : Int)))) (some (.int .i64 (4 * (k : Int) + 4))) none).run Tryd.prog W = .ok (.slice (some ⟨gb, 4 * k, none⟩) 4 (64 - 4 * k)) W := fun W => by
        have := run_slice_arr_lh (P := Tryd.prog) 29 5 64 gb (4 * k) (4 * k + 4) W Tryd.underlying29 (by kernel_rfl) (by omega) (by omega) (by omega)
        rw [show 4 * k + 4 - 4 * k = 4 by omega] at this
        exact this
      have HU := Lib.hid (HB.out k zs hlt hu)
      have hzl := hu.1
      rw [HBL.out] at hzl
      have hcf := fr.cell (i := k) (by rw [HS.out.1]; exact hlt)
      have rF : R32 (F.getD k 0) := HS.out.get hlt
      have rV : R32 (V.getD k 0) := HV.out.get hlt
      generalize F.getD k 0 = x at *
      generalize V.getD k 0 = y at *
      go_wp2_with fail
      refine wp_region_held (S := fun W => wr.grownBy W (some gb)) (by kernel_rfl) ?_
      change wpAnyH _ _ _ _ _ _ _ _ wr.drew
      have S0 : wr.grownBy wr.drew (some gb) := ⟨rfl, rfl, rfl, Nat.le_refl _, fun _ _ _ => rfl⟩
      have hw4 : IntKind.i64.wrap (4 * (k : Int)) = 4 * (k : Int) := by rw [IntKind.wrap_i64]; omega
      have hw5 : IntKind.i64.wrap (4 * (k : Int) + 4) = 4 * (k : Int) + 4 := by rw [IntKind.wrap_i64]; omega
      refine Held.take (v := .int .i64 (k : Int)) 0 (some 23) rfl rfl (by kernel_rfl) (by kernel_rfl) (by kernel_rfl) (fun _ _ _ h => h) rfl (Held.y_move rfl rfl) S0 ?_
      simp only [Act.put, List.setIfInBounds_toArray, List.set_cons_zero, List.set_cons_succ]
      refine Held.take (v := .int .i64 (4 * (k : Int))) 1 (some 24) rfl rfl (by kernel_rfl) (by kernel_rfl) (by kernel_rfl) (fun _ _ _ h => h) rfl (Held.y_int rfl rfl rfl (fun W => Held.run_mul _ _ hw4 W)) S0 ?_
      simp only [Act.put, List.setIfInBounds_toArray, List.set_cons_zero, List.set_cons_succ]
      refine Held.take (v := .int .i64 (k : Int)) 2 (some 25) rfl rfl (by kernel_rfl) (by kernel_rfl) (by kernel_rfl) (fun _ _ _ h => h) rfl (Held.y_move rfl rfl) S0 ?_
      simp only [Act.put, List.setIfInBounds_toArray, List.set_cons_zero, List.set_cons_succ]
      refine Held.take (v := .int .i64 (4 * (k : Int))) 3 (some 26) rfl rfl (by kernel_rfl) (by kernel_rfl) (by kernel_rfl) (fun _ _ _ h => h) rfl (Held.y_int rfl rfl rfl (fun W => Held.run_mul _ _ hw4 W)) S0 ?_
      simp only [Act.put, List.setIfInBounds_toArray, List.set_cons_zero, List.set_cons_succ]
      refine Held.take (v := .int .i64 (4 * (k : Int) + 4)) 4 (some 27) rfl rfl (by kernel_rfl) (by kernel_rfl) (by kernel_rfl) (fun _ _ _ h => h) rfl (Held.y_int rfl rfl rfl (fun W => Held.run_add _ _ hw5 W)) S0 ?_
      simp only [Act.put, List.setIfInBounds_toArray, List.set_cons_zero, List.set_cons_succ]
      refine Held.take (v := .slice (some ⟨gb, 4 * k, none⟩) 4 (64 - 4 * k)) 5 (some 28) rfl rfl (by kernel_rfl) (by kernel_rfl) (by kernel_rfl) (fun _ _ _ h => h) rfl (Held.y_slice rfl hsl) S0 ?_
      simp only [Act.put, List.setIfInBounds_toArray, List.set_cons_zero, List.set_cons_succ]
      refine Held.take (v := .int .i64 (k : Int)) 6 (some 29) rfl rfl (by kernel_rfl) (by kernel_rfl) (by kernel_rfl) (fun _ _ _ h => h) rfl (Held.y_move rfl rfl) S0 ?_
      simp only [Act.put, List.setIfInBounds_toArray, List.set_cons_zero, List.set_cons_succ]
      refine Held.take (v := .pointer (some ⟨gf, k, none⟩)) 7 (some 30) rfl rfl (by kernel_rfl) (by kernel_rfl) (by kernel_rfl) (fun _ _ _ h => h) rfl (Held.y_addr rfl rfl rfl (fun W => Held.run_addr_arr 48 23 16 gf k .i64 Tryd.underlying48 (by kernel_rfl) hlt W)) S0 ?_
      simp only [Act.put, List.setIfInBounds_toArray, List.set_cons_zero, List.set_cons_succ]
      refine Held.take (v := .int .u32 x) 8 (some 31) rfl rfl (by kernel_rfl) (by kernel_rfl) (by kernel_rfl) (fun _ _ _ h => h) rfl (Held.y_load rfl rfl (by kernel_rfl) (fun W hW => (World.cell?_of_block (w := wr) (w' := W) (a := ⟨gf, k, none⟩) (hW.block gf fr.lt (by intro e; injection e with e; omega))).trans hcf)) S0 ?_
      simp only [Act.put, List.setIfInBounds_toArray, List.set_cons_zero, List.set_cons_succ]
      refine Held.take (v := .int .u32 y) 9 (some 32) rfl rfl (by kernel_rfl) (by kernel_rfl) (by kernel_rfl) (fun _ _ _ h => h) rfl (Held.y_move rfl rfl) S0 ?_
      simp only [Act.put, List.setIfInBounds_toArray, List.set_cons_zero, List.set_cons_succ]
      refine Held.take (v := .int .u32 (addI x y)) 10 (some 33) rfl rfl (by kernel_rfl) (by kernel_rfl) (by kernel_rfl) (fun _ _ _ h => h) rfl (Held.y_int rfl rfl rfl (fun W => Held.run_add _ _ (by rw [IntKind.wrap_u32]; rfl) W)) S0 ?_
      simp only [Act.put, List.setIfInBounds_toArray, List.set_cons_zero, List.set_cons_succ]
      refine Held.one 11 (by kernel_rfl) ?_
      refine Held.op_call 11 (some 34) 24 #[.slice (some ⟨gb, 4 * k, none⟩) 4 (64 - 4 * k), .int .u32 (addI x y)] rfl rfl rfl rfl (enters_of Tryd.func24 (by kernel_rfl) rfl) (by simp [Act.eval])
        (put_any gb (4 * k) (64 - 4 * k) _ zs (addI x y) _ br (by omega) (r32_add _ _)) ?_
      rintro e w8 ⟨⟨v, rfl⟩, br8, g8'⟩
      have g8 : wr.grownBy w8 (some gb) := ⟨g8'.os, g8'.tape, g8'.output, g8'.size, g8'.block⟩
      clear g8'
      refine ⟨_, rfl, g8, ?_⟩
      simp only [Act.put, List.setIfInBounds_toArray, List.set_cons_zero, List.set_cons_succ]
      refine wpAnyH_done (by kernel_rfl) ?_ _
      go_wp2_with fail
      go_roundw
      case rel => exact ⟨k + 1, by omega, by go_num, hbl.grown g8 hbl.size (fun r e => by cases e; omega), qr.grown g8 (by intro e; injection e with e; omega), fr.grown g8 (by intro e; injection e with e; omega), _, br8, HU.out⟩
      case measure => simp [intOf]; omega
    · have hk16 : k = 16 := by omega
      subst hk16
      have hz := hu.eq (by rw [HBL.out]; omega)
      subst hz
      go_wp2_with (first
        | (refine wpList_load_Row (w := wr) rfl 29 _ rfl gb rfl 29 .u8 _ br 64 5 Tryd.underlying29 info_64 HBL.out ?_)
        | (refine wpList_store_RowTo (w := wr) rfl 29 _ _ rfl gr rfl 29 .u8 _ (Cc.block key ctr nonce) rfl qr 64 info_64 HBL.out (by simp) (bs_wf HBW.out) ?_; intro w8 q8 g8 z8))
      refine bodyPost_ret (results_Row rfl _ _ gr _ _ _ rfl q8 64 5 Tryd.underlying29 info_64 HBL.out) rfl ?_
      exact ⟨rfl, hbl.grown g8 hbl.size (fun r e => by cases e; omega)⟩
end Go.Proofs.YtejgnjnmlojdpaaDoor.Cha

