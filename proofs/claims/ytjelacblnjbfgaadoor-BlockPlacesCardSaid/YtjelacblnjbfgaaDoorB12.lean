/-
  The functions mixed and Block of package chacha by their contracts.
  The document's own Block by its contract.
  The document's own Xor by its contract.
  Numbers in forty bytes, carried and reduced modulo 2^130 - 5: no program here.
  The document's own Clamp and carry, each by its contract.
  The document's own reduce and least, each by its contract.
  The document's own least by its contract.
  What the document's own Tag adds and multiplies, place by place: no program here.
  The document's own Tag by its contract: the tag is the one that the standard's own words say.
  The document's own tag (package dominoref07) by its contract: the tag of what stands beside and of what was turned.
  The document's own Seal (package dominoref07) by its contract: what was turned, and the tag behind it; too much is refused.
  The document's own Open (package dominoref07) by its contract: what was sealed is turned back where the tag is the right one; too much, too little and another tag are refused.
  The iterator over numbers of package keys, by its contract: it hands out each number of its list, in order.
  Numbers of the call's own whose row may bear a mark behind its cells (what a text is turned into): one number appended.
  Bytes of the call's own in a variable that is appended to, in a range over a function: what a step keeps of them.
-/
import Derived.Test.YtjelacblnjbfgaaDoorB11
import Derived.Test.YtjelacblnjbfgaaDoorB6
import Derived.Test.YtjelacblnjbfgaaDoorB7
import Derived.Test.YtjelacblnjbfgaaDoorB4
import Derived.Test.YtjelacblnjbfgaaDoorB10
import Derived.Test.YtjelacblnjbfgaaDoorB5
import Derived.Test.YtjelacblnjbfgaaDoorB2
import Derived.Test.YtjelacblnjbfgaaDoorB9
import Derived.Test.YtjelacblnjbfgaaDoorB1
import Derived.Lib.ConvBytes
set_option linter.unusedVariables false
namespace Go.Proofs.YtjelacblnjbfgaaDoor.Cha
open Go.RowKit Go.Shelf Go.Proofs.YtjelacblnjbfgaaDoor Mem Help Go.Proofs.YtjelacblnjbfgaaDoor.Sum Cc Sha
attribute [local irreducible] wpList wpListIn
theorem sixteen_out {s : List Int} (h : s.length = 16) : ∃ a0 a1 a2 a3 a4 a5 a6 a7 a8 a9 a10 a11 a12 a13 a14 a15, s = [a0, a1, a2, a3, a4, a5, a6, a7, a8, a9, a10, a11, a12, a13, a14, a15] := by
  rcases s with _ | ⟨a0, _ | ⟨a1, _ | ⟨a2, _ | ⟨a3, _ | ⟨a4, _ | ⟨a5, _ | ⟨a6, _ | ⟨a7, _ | ⟨a8, _ | ⟨a9, _ | ⟨a10, _ | ⟨a11, _ | ⟨a12, _ | ⟨a13, _ | ⟨a14, _ | ⟨a15, _ | ⟨a16, s⟩⟩⟩⟩⟩⟩⟩⟩⟩⟩⟩⟩⟩⟩⟩⟩⟩ <;> first | (simp at h; done) | exact ⟨_, _, _, _, _, _, _, _, _, _, _, _, _, _, _, _, rfl⟩
theorem columns_list (a0 a1 a2 a3 a4 a5 a6 a7 a8 a9 a10 a11 a12 a13 a14 a15 : Int) : columns [a0, a1, a2, a3, a4, a5, a6, a7, a8, a9, a10, a11, a12, a13, a14, a15] =
    [(qr a0 a4 a8 a12).1, (qr a1 a5 a9 a13).1, (qr a2 a6 a10 a14).1, (qr a3 a7 a11 a15).1, (qr a0 a4 a8 a12).2.1, (qr a1 a5 a9 a13).2.1, (qr a2 a6 a10 a14).2.1, (qr a3 a7 a11 a15).2.1,
     (qr a0 a4 a8 a12).2.2.1, (qr a1 a5 a9 a13).2.2.1, (qr a2 a6 a10 a14).2.2.1, (qr a3 a7 a11 a15).2.2.1, (qr a0 a4 a8 a12).2.2.2, (qr a1 a5 a9 a13).2.2.2, (qr a2 a6 a10 a14).2.2.2, (qr a3 a7 a11 a15).2.2.2] := by
  unfold columns at4
  rfl
theorem diagonals_list (a0 a1 a2 a3 a4 a5 a6 a7 a8 a9 a10 a11 a12 a13 a14 a15 : Int) : diagonals [a0, a1, a2, a3, a4, a5, a6, a7, a8, a9, a10, a11, a12, a13, a14, a15] =
    [(qr a0 a5 a10 a15).1, (qr a1 a6 a11 a12).1, (qr a2 a7 a8 a13).1, (qr a3 a4 a9 a14).1, (qr a3 a4 a9 a14).2.1, (qr a0 a5 a10 a15).2.1, (qr a1 a6 a11 a12).2.1, (qr a2 a7 a8 a13).2.1,
     (qr a2 a7 a8 a13).2.2.1, (qr a3 a4 a9 a14).2.2.1, (qr a0 a5 a10 a15).2.2.1, (qr a1 a6 a11 a12).2.2.1, (qr a1 a6 a11 a12).2.2.2, (qr a2 a7 a8 a13).2.2.2, (qr a3 a4 a9 a14).2.2.2, (qr a0 a5 a10 a15).2.2.2] := by
  unfold diagonals at4
  rfl
set_option maxRecDepth 100000 in
set_option maxHeartbeats 2000000 in
theorem mixed_any (s : List Int) (w : World) (hs : Sixteen s) :
    Calls Tryd.prog 67 #[.agg (arr .u32 s)] w fun e w' => e = .returned (.agg (arr .u32 (turns 10 s))) ∧ Below w.heap.size w w' := by
  have zero_16 : (Tryd.prog.info? 121).bind (·.zero) = some (.agg (arr .u32 (List.replicate 16 0))) := by kernel_rfl
  have hwf : ∀ z ∈ s, (Lit.int .u32 z).wf = true := fun z hz => wf_32 (hs.2 z hz)
  have HL := Lib.hid hs.1
  have HT := Lib.hid (fun k => (hs.turns k))
  obtain ⟨a0, a1, a2, a3, a4, a5, a6, a7, a8, a9, a10, a11, a12, a13, a14, a15, he⟩ := sixteen_out hs.1
  have H0 : Hid (turns 0 s = [a0, a1, a2, a3, a4, a5, a6, a7, a8, a9, a10, a11, a12, a13, a14, a15]) := Lib.hid he
  have HE := Lib.hid he
  clear he hs
  go_enter Tryd.func67, Tryd.ntmps67
  go_wp2_with (first
    | (refine wpList_box_Row (w := w) rfl 121 _ rfl .u32 s rfl hwf ?_; intro w1 r1 g1 z1)
    | (refine wpList_alloc_Row (w := w1) rfl 121 rfl .u32 16 zero_16 ?_; intro w2 r2 g2 z2))
  have b2 : Below w.heap.size w w2 := ((Below.refl _ w).grown g1 (Nat.le_refl _) (by simp)).grown g2 g1.size (by simp)
  have q1 := r1.grown g2 (by simp)
  obtain ⟨g, hg⟩ : ∃ g, w1.heap.size = g := ⟨_, rfl⟩
  have hgw : w.heap.size < g := by rw [← hg]; exact r1.lt
  rw [hg] at r2 ⊢
  rw [HE.out] at q1
  have c0 := q1.cell (i := 0) (by simp)
  have c1 := q1.cell (i := 1) (by simp)
  have c2 := q1.cell (i := 2) (by simp)
  have c3 := q1.cell (i := 3) (by simp)
  have c4 := q1.cell (i := 4) (by simp)
  have c5 := q1.cell (i := 5) (by simp)
  have c6 := q1.cell (i := 6) (by simp)
  have c7 := q1.cell (i := 7) (by simp)
  have c8 := q1.cell (i := 8) (by simp)
  have c9 := q1.cell (i := 9) (by simp)
  have c10 := q1.cell (i := 10) (by simp)
  have c11 := q1.cell (i := 11) (by simp)
  have c12 := q1.cell (i := 12) (by simp)
  have c13 := q1.cell (i := 13) (by simp)
  have c14 := q1.cell (i := 14) (by simp)
  have c15 := q1.cell (i := 15) (by simp)
  simp only [List.getD_cons_zero, List.getD_cons_succ] at c0 c1 c2 c3 c4 c5 c6 c7 c8 c9 c10 c11 c12 c13 c14 c15
  clear r1 g1 g2 z1 z2 hg
  go_quiet (fail)
  obtain ⟨m1, rfl⟩ : ∃ m1, m1 = nq := ⟨_, rfl⟩
  go_wp2_with fail
  go_quiet (fail)
  obtain ⟨m2, rfl⟩ : ∃ m2, m2 = nq := ⟨_, rfl⟩
  go_wp2_with fail
  go_quiet (fail)
  obtain ⟨m3, rfl⟩ : ∃ m3, m3 = nq := ⟨_, rfl⟩
  go_wp2_with fail
  go_quiet (fail)
  obtain ⟨w3, hw3⟩ : ∃ w3, (((w2.drewN m1).drewN m2).drewN m3).drewN nq = w3 := ⟨_, rfl⟩
  have r3 : Row w3 g 121 .u32 (List.replicate 16 0) := hw3 ▸ r2
  have b3 : Below w.heap.size w w3 := hw3 ▸ below_drewN (below_drewN (below_drewN (below_drewN b2 _) _) _) _
  rw [hw3]
  clear hw3 c0 c1 c2 c3 c4 c5 c6 c7 c8 c9 c10 c11 c12 c13 c14 c15 r2 b2 q1
  go_wp2_with fail
  go_loopw [3, 4, 5, 6, 7, 8, 9, 10, 11, 12, 13, 14, 15, 16, 17, 18, 51] (fun s0 s1 s2 s3 s4 s5 s6 s7 s8 s9 s10 s11 s12 s13 s14 s15 i wr => ∃ k : Nat, k ≤ 10 ∧ i = .int .i64 k ∧ wr = w3 ∧ ∃ a0 a1 a2 a3 a4 a5 a6 a7 a8 a9 a10 a11 a12 a13 a14 a15 : Int, Hid (turns k s = [a0, a1, a2, a3, a4, a5, a6, a7, a8, a9, a10, a11, a12, a13, a14, a15]) ∧ s0 = .int .u32 a0 ∧ s1 = .int .u32 a1 ∧ s2 = .int .u32 a2 ∧ s3 = .int .u32 a3 ∧ s4 = .int .u32 a4 ∧ s5 = .int .u32 a5 ∧ s6 = .int .u32 a6 ∧ s7 = .int .u32 a7 ∧ s8 = .int .u32 a8 ∧ s9 = .int .u32 a9 ∧ s10 = .int .u32 a10 ∧ s11 = .int .u32 a11 ∧ s12 = .int .u32 a12 ∧ s13 = .int .u32 a13 ∧ s14 = .int .u32 a14 ∧ s15 = .int .u32 a15) (fun _ _ _ _ _ _ _ _ _ _ _ _ _ _ _ _ i _ => 10 - (intOf i).toNat)
  case atStart => exact ⟨0, by omega, rfl, rfl, a0, a1, a2, a3, a4, a5, a6, a7, a8, a9, a10, a11, a12, a13, a14, a15, H0, rfl, rfl, rfl, rfl, rfl, rfl, rfl, rfl, rfl, rfl, rfl, rfl, rfl, rfl, rfl, rfl⟩
  case round =>
    clear H0 HE
    obtain ⟨k, hk, rfl, rfl, a0, a1, a2, a3, a4, a5, a6, a7, a8, a9, a10, a11, a12, a13, a14, a15, HK, rfl, rfl, rfl, rfl, rfl, rfl, rfl, rfl, rfl, rfl, rfl, rfl, rfl, rfl, rfl, rfl⟩ := hrel
    have hk0 : (0 : Int) ≤ (k : Int) := by omega
    by_cases hlt : k < 10
    · have hlt' : (k : Int) < 10 := by omega
      have HK1 : Hid (turns (k + 1) s = twice [a0, a1, a2, a3, a4, a5, a6, a7, a8, a9, a10, a11, a12, a13, a14, a15]) := Lib.hid (by show twice (turns k s) = _; rw [HK.out])
      rw [show twice [a0, a1, a2, a3, a4, a5, a6, a7, a8, a9, a10, a11, a12, a13, a14, a15] = diagonals (columns [a0, a1, a2, a3, a4, a5, a6, a7, a8, a9, a10, a11, a12, a13, a14, a15]) from rfl, columns_list, diagonals_list] at HK1
      go_wp2_with fail
      refine (quarter_any _ _ _ _ _).mono ?_
      rintro e w' ⟨rfl, rfl⟩
      go_wp2_with fail
      refine (quarter_any _ _ _ _ _).mono ?_
      rintro e w' ⟨rfl, rfl⟩
      go_wp2_with fail
      refine (quarter_any _ _ _ _ _).mono ?_
      rintro e w' ⟨rfl, rfl⟩
      go_wp2_with fail
      refine (quarter_any _ _ _ _ _).mono ?_
      rintro e w' ⟨rfl, rfl⟩
      go_wp2_with fail
      refine (quarter_any _ _ _ _ _).mono ?_
      rintro e w' ⟨rfl, rfl⟩
      go_wp2_with fail
      refine (quarter_any _ _ _ _ _).mono ?_
      rintro e w' ⟨rfl, rfl⟩
      go_wp2_with fail
      refine (quarter_any _ _ _ _ _).mono ?_
      rintro e w' ⟨rfl, rfl⟩
      go_wp2_with fail
      refine (quarter_any _ _ _ _ _).mono ?_
      rintro e w' ⟨rfl, rfl⟩
      go_wp2_with fail
      go_roundw
      case rel => exact ⟨k + 1, by omega, by go_num, by trivial, _, _, _, _, _, _, _, _, _, _, _, _, _, _, _, _, HK1, rfl, rfl, rfl, rfl, rfl, rfl, rfl, rfl, rfl, rfl, rfl, rfl, rfl, rfl, rfl, rfl⟩
      case measure => simp [intOf]; omega
    · have hk10 : k = 10 := by omega
      subst hk10
      have HT10 := HT.out 10
      have HK10 := HK.out
      clear HT
      rw [HK10] at HT10
      go_wp2_with (refine wpList_store_RowTo (w := wr) rfl 121 _ _ rfl g rfl 121 .u32 _ [a0, a1, a2, a3, a4, a5, a6, a7, a8, a9, a10, a11, a12, a13, a14, a15] rfl r3 16 info_16 rfl (by simp) (fun z hz => wf_32 (HT10.2 z hz)) ?_; intro w8 q8 g8 z8)
      refine bodyPost_ret (results_Row rfl _ _ g _ _ _ rfl q8 16 54 Tryd.underlying121 info_16 rfl) rfl ?_
      exact ⟨by rw [HK10], b3.grown g8 b3.size (fun r e => by cases e; omega)⟩
theorem upto_put4 {F zs : List Int} {m : Nat} {n : Int} (h : Upto F m zs) (hm : m + 4 ≤ F.length) (h0 : F.getD m 0 = n % 256) (h1 : F.getD (m + 1) 0 = n / 256 % 256) (h2 : F.getD (m + 2) 0 = n / 65536 % 256) (h3 : F.getD (m + 3) 0 = n / 16777216 % 256) : Upto F (m + 4) (put4 zs m n) := by
  unfold put4
  rw [← h0, ← h1, ← h2, ← h3]
  exact (((h.set (by omega)).set (by omega)).set (by omega)).set (by omega)
theorem addI_comm (x y : Int) : addI x y = addI y x := by unfold addI; rw [Int.add_comm]
theorem block_get (key : List Int) (ctr : Int) (nonce : List Int) {i : Nat} (hi : i < 64) : (Cc.block key ctr nonce).getD i 0 = Cc.byteOf (turns 10 (first key ctr nonce)) (first key ctr nonce) i := by simp [Cc.block, List.getD_eq_getElem?_getD, hi]
theorem byteOf_at (v s : List Int) (k j : Nat) (hj : j < 4) : Cc.byteOf v s (4 * k + j) = addI (s.getD k 0) (v.getD k 0) / 2 ^ (8 * j) % 256 := by
  unfold Cc.byteOf
  rw [show (4 * k + j) / 4 = k by omega, show (4 * k + j) % 4 = j by omega, addI_comm]
theorem block_step {key : List Int} {ctr : Int} {nonce zs : List Int} {k : Nat} (hk : k < 16) (h : Upto (Cc.block key ctr nonce) (4 * k) zs) : Upto (Cc.block key ctr nonce) (4 * (k + 1)) (put4 zs (4 * k) (addI ((first key ctr nonce).getD k 0) ((turns 10 (first key ctr nonce)).getD k 0))) := by
  rw [show 4 * (k + 1) = 4 * k + 4 by omega]
  refine upto_put4 (m := 4 * k) h (by rw [block_length]; omega) ?_ ?_ ?_ ?_
  · rw [block_get _ _ _ (by omega)]; have := byteOf_at (turns 10 (first key ctr nonce)) (first key ctr nonce) k 0 (by omega); simpa using this
  · rw [block_get _ _ _ (by omega)]; exact byteOf_at (turns 10 (first key ctr nonce)) (first key ctr nonce) k 1 (by omega)
  · rw [block_get _ _ _ (by omega)]; exact byteOf_at (turns 10 (first key ctr nonce)) (first key ctr nonce) k 2 (by omega)
  · rw [block_get _ _ _ (by omega)]; exact byteOf_at (turns 10 (first key ctr nonce)) (first key ctr nonce) k 3 (by omega)
theorem info_64 : (Tryd.prog.info? 81).map (·.size) = some 64 := by kernel_rfl
theorem zero_64 : (Tryd.prog.info? 81).bind (·.zero) = some (.agg (arr .u8 (List.replicate 64 0))) := by kernel_rfl
set_option maxRecDepth 100000 in
set_option maxHeartbeats 2000000 in
theorem block_any (key nonce : List Int) (ctr : Int) (w : World) (hk : key.length = 32) (hkb : Bs key) (hn : nonce.length = 12) (hnb : Bs nonce) (hc : R32 ctr) (hT : Tab w 1 sigma) :
    Calls Tryd.prog 51 #[.agg (arr .u8 key), .int .u32 ctr, .agg (arr .u8 nonce)] w fun e w' => e = .returned (.agg (arr .u8 (Cc.block key ctr nonce))) ∧ Below w.heap.size w w' := by
  have zero_16 : (Tryd.prog.info? 121).bind (·.zero) = some (.agg (arr .u32 (List.replicate 16 0))) := by kernel_rfl
  have info_32 : (Tryd.prog.info? 22).map (·.size) = some 32 := by kernel_rfl
  have info_12 : (Tryd.prog.info? 41).map (·.size) = some 12 := by kernel_rfl
  have HK := Lib.hid hk
  have HN := Lib.hid hn
  have HS := Lib.hid (sixteen_first hkb hnb hc)
  have HV := Lib.hid ((sixteen_first hkb hnb hc).turns 10)
  have HB := Lib.hid (fun k zs (h1 : k < 16) (h2 : Upto (Cc.block key ctr nonce) (4 * k) zs) => block_step (key := key) (ctr := ctr) (nonce := nonce) h1 h2)
  have HBL := Lib.hid (block_length key ctr nonce)
  have HBW := Lib.hid (block_bytes key ctr nonce)
  clear hk hn
  go_enter Tryd.func51, Tryd.ntmps51
  go_wp2_with (first
    | (refine wpList_box_Row (w := w) rfl 22 _ rfl .u8 key rfl (bs_wf hkb) ?_; intro w1 r1 g1 z1)
    | (refine wpList_box_Row (w := w1) rfl 41 _ rfl .u8 nonce rfl (bs_wf hnb) ?_; intro w2 r2 g2 z2)
    | (refine wpList_alloc_Row (w := w2) rfl 81 rfl .u8 64 zero_64 ?_; intro w3 r3 g3 z3; have k3 := (r1.grown g2 (by simp)).grown g3 (by simp); have n3 := r2.grown g3 (by simp))
    | (refine wpList_load_Row (w := w3) rfl 22 _ rfl w.heap.size rfl 22 .u8 _ k3 32 5 Tryd.underlying22 info_32 HK.out ?_)
    | (refine wpList_load_Row (w := w3) rfl 41 _ rfl w1.heap.size rfl 41 .u8 _ n3 12 5 Tryd.underlying41 info_12 HN.out ?_))
  have b3 : Below w.heap.size w w3 := (((Below.refl _ w).grown g1 (Nat.le_refl _) (by simp)).grown g2 g1.size (by simp)).grown g3 (by have := g1.size; have := g2.size; omega) (by simp)
  obtain ⟨gn, hgn⟩ : ∃ g, w1.heap.size = g := ⟨_, rfl⟩
  obtain ⟨gr, hgr⟩ : ∃ g, w2.heap.size = g := ⟨_, rfl⟩
  have l1 := r1.lt
  have l2 := r2.lt
  have l3 := r3.lt
  rw [hgn] at l1 l2
  rw [hgr] at r3 l2 l3
  rw [hgn, hgr]
  clear hgn hgr r1 r2 g1 g2 g3 z1 z2 z3 k3 n3
  refine (state_any key nonce ctr w3 HK.out hkb HN.out hnb hc (hT.below b3 hT.lt)).mono ?_
  rintro e w4 ⟨rfl, hb4⟩
  have b4 := b3.trans (hb4.mono b3.size)
  have r4 := r3.below hb4 r3.lt
  have l4 := r4.lt
  clear hb4 b3 r3 l3
  obtain ⟨F, hF⟩ : ∃ F, first key ctr nonce = F := ⟨_, rfl⟩
  have HB' := HB.out
  have HS' := HS.out
  have HV' := HV.out
  clear HB HS HV
  rw [hF] at HS' HV' ⊢
  simp only [hF] at HB'
  clear hF
  have HB := Lib.hid HB'
  have HS := Lib.hid HS'
  clear HB' HS'
  go_wp2_with (first
    | (refine wpList_alloc_Row (w := w4) rfl 121 rfl .u32 16 zero_16 ?_; intro w5 r5 g5 z5)
    | (refine wpList_store_RowTo (w := w5) rfl 121 _ _ rfl w4.heap.size rfl 121 .u32 _ F rfl r5 16 info_16 HS.out.1 (by simp) (fun z hz => wf_32 (HS.out.2 z hz)) ?_; intro w6 r6 g6 z6)
    | (refine wpList_load_Row (w := w6) rfl 121 _ rfl w4.heap.size rfl 121 .u32 _ r6 16 54 Tryd.underlying121 info_16 HS.out.1 ?_))
  obtain ⟨gf, hgf⟩ : ∃ g, w4.heap.size = g := ⟨_, rfl⟩
  have b6 : Below w.heap.size w w6 := (b4.grown g5 b4.size (by simp)).grown g6 (by have := b4.size; have := g5.size; omega) (fun r e => by have := b4.size; cases e; omega)
  have q6 := (r4.grown g5 (by simp)).grown g6 (by intro e; injection e with e; omega)
  have l6 := r6.lt
  rw [hgf] at l4 r6 l6 ⊢
  clear hgf r4 r5 g5 g6 z5 z6
  refine (mixed_any F w6 HS.out).mono ?_
  rintro e w7 ⟨rfl, hb7⟩
  have b7 := b6.trans (hb7.mono b6.size)
  have q7 := q6.below hb7 q6.lt
  have f7 := r6.below hb7 r6.lt
  have l7 := f7.lt
  clear hb7 b6 q6 r6 l6
  obtain ⟨V, hV⟩ : ∃ V, turns 10 F = V := ⟨_, rfl⟩
  rw [hV] at HV' ⊢
  have HB' := HB.out
  simp only [hV] at HB'
  clear HB hV
  have HB := Lib.hid HB'
  have HV := Lib.hid HV'
  clear HB' HV'
  go_wp2_with (first
    | (refine wpList_alloc_Row (w := w7) rfl 121 rfl .u32 16 zero_16 ?_; intro w8 r8 g8 z8)
    | (refine wpList_store_RowTo (w := w8) rfl 121 _ _ rfl w7.heap.size rfl 121 .u32 _ V rfl r8 16 info_16 HV.out.1 (by simp) (fun z hz => wf_32 (HV.out.2 z hz)) ?_; intro w9 r9 g9 z9)
    | (refine wpList_alloc_Row (w := w9) rfl 81 rfl .u8 64 zero_64 ?_; intro wa ra ga za; have v9 := r9.grown ga (by simp))
    | (refine wpList_load_Row (w := wa) rfl 121 _ rfl w7.heap.size rfl 121 .u32 _ v9 16 54 Tryd.underlying121 info_16 HV.out.1 ?_))
  obtain ⟨gb, hgb⟩ : ∃ g, w9.heap.size = g := ⟨_, rfl⟩
  have s7 := b7.size
  have s8 := g8.size
  have s9 := g9.size
  have z8' := z8.out
  have ba : Below w.heap.size w wa := ((b7.grown g8 s7 (by simp)).grown g9 (by omega) (fun r e => by cases e; omega)).grown ga (by omega) (by simp)
  have qa := ((q7.grown g8 (by simp)).grown g9 (by intro e; injection e with e; omega)).grown ga (by simp)
  have fa := ((f7.grown g8 (by simp)).grown g9 (by intro e; injection e with e; omega)).grown ga (by simp)
  have lb : gf < w9.heap.size := by omega
  rw [hgb] at lb ra ⊢
  clear hgb r8 r9 v9 g8 g9 ga z8 z9 za z8' s7 s8 s9 q7 f7 l7 b7
  have u0 : Upto (Cc.block key ctr nonce) (4 * 0) (List.replicate 64 0) := ⟨by rw [HBL.out]; simp, fun i hi => by omega⟩
  go_loopw [19] (fun i wr => ∃ k : Nat, k ≤ 16 ∧ i = .int .i64 k ∧ Below w.heap.size w wr ∧ Row wr gr 81 .u8 (List.replicate 64 0) ∧ Row wr gf 121 .u32 F ∧ ∃ zs, Row wr gb 81 .u8 zs ∧ Upto (Cc.block key ctr nonce) (4 * k) zs) (fun i _ => 16 - (intOf i).toNat)
  case atStart => exact ⟨0, by omega, rfl, ba, qa, fa, _, ra, u0⟩
  case round =>
    clear ba qa fa ra u0
    obtain ⟨k, hk, rfl, hbl, qr, fr, zs, br, hu⟩ := hrel
    have hk0 : (0 : Int) ≤ (k : Int) := by omega
    by_cases hlt : k < 16
    · have hlt' : (k : Int) < 16 := by omega
      have hidx : ∀ W, (Instr.index 121 (.agg (arr .u32 V)) (.int .i64 (k : Int))).run Tryd.prog W = .ok (.int .u32 (V.getD k 0)) W := fun W => run_index_arr _ 54 16 .u32 V k W Tryd.underlying121 (by kernel_rfl) (by kernel_rfl) HV.out.1 hlt
      have hsl : ∀ W, (Instr.sliceAt 81 (.pointer (some ⟨gb, 0, none⟩)) (some (.int .i64 (4 * (k : Int)))) (some (.int .i64 (4 * (k : Int) + 4))) none).run Tryd.prog W = .ok (.slice (some ⟨gb, 4 * k, none⟩) 4 (64 - 4 * k)) W := fun W => by
        have := run_slice_arr_lh (P := Tryd.prog) 81 5 64 gb (4 * k) (4 * k + 4) W Tryd.underlying81 (by kernel_rfl) (by omega) (by omega) (by omega)
        rw [show 4 * k + 4 - 4 * k = 4 by omega] at this
        exact this
      have HU := Lib.hid (HB.out k zs hlt hu)
      have hzl := hu.1
      rw [HBL.out] at hzl
      have hcf := fr.cell (i := k) (by rw [HS.out.1]; exact hlt)
      have rF : R32 (F.getD k 0) := HS.out.get hlt
      have rV : R32 (V.getD k 0) := HV.out.get hlt
      generalize F.getD k 0 = x at *
      generalize V.getD k 0 = y at *
      go_wp2_with fail
      refine wp_region_held (S := fun W => wr.grownBy W (some gb)) (by kernel_rfl) ?_
      change wpAnyH _ _ _ _ _ _ _ _ wr.drew
      have S0 : wr.grownBy wr.drew (some gb) := ⟨rfl, rfl, rfl, Nat.le_refl _, fun _ _ _ => rfl⟩
      have hw4 : IntKind.i64.wrap (4 * (k : Int)) = 4 * (k : Int) := by rw [IntKind.wrap_i64]; omega
      have hw5 : IntKind.i64.wrap (4 * (k : Int) + 4) = 4 * (k : Int) + 4 := by rw [IntKind.wrap_i64]; omega
      refine Held.tk (v := .int .i64 (k : Int)) 0 (some 23) rfl (Held.y_move rfl rfl) S0 ?_
      simp only [Act.put, Z1, Z2, Z3]
      refine Held.tk (v := .int .i64 (4 * (k : Int))) 1 (some 24) rfl (Held.y_int rfl rfl rfl (fun W => Held.run_mul _ _ hw4 W)) S0 ?_
      simp only [Act.put, Z1, Z2, Z3]
      refine Held.tk (v := .int .i64 (k : Int)) 2 (some 25) rfl (Held.y_move rfl rfl) S0 ?_
      simp only [Act.put, Z1, Z2, Z3]
      refine Held.tk (v := .int .i64 (4 * (k : Int))) 3 (some 26) rfl (Held.y_int rfl rfl rfl (fun W => Held.run_mul _ _ hw4 W)) S0 ?_
      simp only [Act.put, Z1, Z2, Z3]
      refine Held.tk (v := .int .i64 (4 * (k : Int) + 4)) 4 (some 27) rfl (Held.y_int rfl rfl rfl (fun W => Held.run_add _ _ hw5 W)) S0 ?_
      simp only [Act.put, Z1, Z2, Z3]
      refine Held.tk (v := .slice (some ⟨gb, 4 * k, none⟩) 4 (64 - 4 * k)) 5 (some 28) rfl (Held.y_slice rfl hsl) S0 ?_
      simp only [Act.put, Z1, Z2, Z3]
      refine Held.tk (v := .int .i64 (k : Int)) 6 (some 29) rfl (Held.y_move rfl rfl) S0 ?_
      simp only [Act.put, Z1, Z2, Z3]
      refine Held.tk (v := .pointer (some ⟨gf, k, none⟩)) 7 (some 30) rfl (Held.y_addr rfl rfl rfl (fun W => Held.run_addr_arr 121 54 16 gf k .i64 Tryd.underlying121 (by kernel_rfl) hlt W)) S0 ?_
      simp only [Act.put, Z1, Z2, Z3]
      refine Held.tk (v := .int .u32 x) 8 (some 31) rfl (Held.y_load rfl rfl (by kernel_rfl) (fun W hW => (World.cell?_of_block (w := wr) (w' := W) (a := ⟨gf, k, none⟩) (hW.block gf fr.lt (by intro e; injection e with e; omega))).trans hcf)) S0 ?_
      simp only [Act.put, Z1, Z2, Z3]
      refine Held.tk (v := .int .u32 y) 9 (some 32) rfl (Held.y_move rfl rfl) S0 ?_
      simp only [Act.put, Z1, Z2, Z3]
      refine Held.tk (v := .int .u32 (addI x y)) 10 (some 33) rfl (Held.y_int rfl rfl rfl (fun W => Held.run_add _ _ (by rw [IntKind.wrap_u32]; rfl) W)) S0 ?_
      simp only [Act.put, Z1, Z2, Z3]
      refine Held.one 11 (by kernel_rfl) ?_
      refine Held.op_call 11 (some 34) 68 #[.slice (some ⟨gb, 4 * k, none⟩) 4 (64 - 4 * k), .int .u32 (addI x y)] rfl rfl rfl rfl (enters_of Tryd.func68 (by kernel_rfl) rfl) (by simp [Act.eval])
        (put_any gb (4 * k) (64 - 4 * k) _ zs (addI x y) _ br (by omega) (r32_add _ _)) ?_
      rintro e w8 ⟨⟨v, rfl⟩, br8, g8'⟩
      have g8 : wr.grownBy w8 (some gb) := ⟨g8'.os, g8'.tape, g8'.output, g8'.size, g8'.block⟩
      clear g8'
      refine ⟨_, rfl, g8, ?_⟩
      simp only [Act.put, Z1, Z2, Z3]
      refine wpAnyH_done (by kernel_rfl) ?_ _
      go_wp2_with fail
      go_roundw
      case rel => exact ⟨k + 1, by omega, by go_num, hbl.grown g8 hbl.size (fun r e => by cases e; omega), qr.grown g8 (by intro e; injection e with e; omega), fr.grown g8 (by intro e; injection e with e; omega), _, br8, HU.out⟩
      case measure => simp [intOf]; omega
    · have hk16 : k = 16 := by omega
      subst hk16
      have hz := hu.eq (by rw [HBL.out]; omega)
      subst hz
      go_wp2_with (first
        | (refine wpList_load_Row (w := wr) rfl 81 _ rfl gb rfl 81 .u8 _ br 64 5 Tryd.underlying81 info_64 HBL.out ?_)
        | (refine wpList_store_RowTo (w := wr) rfl 81 _ _ rfl gr rfl 81 .u8 _ (Cc.block key ctr nonce) rfl qr 64 info_64 HBL.out (by simp) (bs_wf HBW.out) ?_; intro w8 q8 g8 z8))
      refine bodyPost_ret (results_Row rfl _ _ gr _ _ _ rfl q8 64 5 Tryd.underlying81 info_64 HBL.out) rfl ?_
      exact ⟨rfl, hbl.grown g8 hbl.size (fun r e => by cases e; omega)⟩
end Go.Proofs.YtjelacblnjbfgaaDoor.Cha
namespace Go.Proofs.YtjelacblnjbfgaaDoor.Cha
open Go.RowKit Go.Shelf Go.Proofs.YtjelacblnjbfgaaDoor Mem Help Go.Proofs.YtjelacblnjbfgaaDoor.Sum Cc Sha
attribute [local irreducible] wpList wpListIn
end Go.Proofs.YtjelacblnjbfgaaDoor.Cha
namespace Go.Proofs.YtjelacblnjbfgaaDoor.Cha
open Go.RowKit Go.Shelf Go.Proofs.YtjelacblnjbfgaaDoor Mem Help Go.Proofs.YtjelacblnjbfgaaDoor.Sum Cc Sha
attribute [local irreducible] wpList wpListIn
theorem bs_of_ints {w : World} {B : Nat} {A : Option Addr} {n : Nat} {zs : List Int} (h : Ints w .u8 B A n zs) : Bs zs := fun z hz => wf_u8 (h.2.1 z hz)
end Go.Proofs.YtjelacblnjbfgaaDoor.Cha
namespace Go.Proofs.YtjelacblnjbfgaaDoor.Po
open Go.Proofs.YtjelacblnjbfgaaDoor.Sum
def lowL (a : List Int) : List Int := a.take 16 ++ a.getD 16 0 % 4 :: List.replicate 23 0
def highAt (a : List Int) (j : Nat) : Int := a.getD (16 + j) 0 / 4 + a.getD (17 + j) 0 * 64 % 256
def highL (a : List Int) : List Int := (List.range 24).map (highAt a) ++ List.replicate 16 0
def fold (a : List Int) : List Int := List.zipWith (fun x y => x + 5 * y) (lowL a) (highL a)
end Go.Proofs.YtjelacblnjbfgaaDoor.Po
namespace Go.Proofs.YtjelacblnjbfgaaDoor.Po
open Go.RowKit Go.Shelf Mem Go.Proofs.YtjelacblnjbfgaaDoor.Sum
attribute [local irreducible] wpList wpListIn
theorem info_u32 : (Tryd.prog.info? 54).map (·.size) = some 1 := by kernel_rfl
end Go.Proofs.YtjelacblnjbfgaaDoor.Po
namespace Go.Proofs.YtjelacblnjbfgaaDoor.Po
open Go.RowKit Go.Shelf Mem Go.Proofs.YtjelacblnjbfgaaDoor.Sum
attribute [local irreducible] wpList wpListIn
end Go.Proofs.YtjelacblnjbfgaaDoor.Po
namespace Go.Proofs.YtjelacblnjbfgaaDoor.Po
open Go.RowKit Go.Shelf Mem Go.Proofs.YtjelacblnjbfgaaDoor.Sum
attribute [local irreducible] wpList wpListIn
end Go.Proofs.YtjelacblnjbfgaaDoor.Po
namespace Go.Proofs.YtjelacblnjbfgaaDoor.Po
open Go.Proofs.YtjelacblnjbfgaaDoor.Sum
theorem digits_take : ∀ (j k : Nat) (n : Int), j ≤ k → (digits n k).take j = digits n j
  | 0, _, _, _ => by simp [digits]
  | j + 1, 0, _, h => by omega
  | j + 1, k + 1, n, h => by rw [digits, List.take_succ_cons, digits_take j k _ (by omega), digits]
def Small (ps : List Int) (i j : Nat) : Prop := ps.length = 40 ∧ (∀ l, 0 ≤ ps.getD l 0 ∧ ps.getD l 0 ≤ (i + 1 : Nat) * 65025) ∧ ∀ l, i + j ≤ l → ps.getD l 0 ≤ (i : Nat) * 65025
theorem Small.next {ps : List Int} {i j : Nat} (h : Small ps i j) : Small ps (i + 1) 0 := ⟨h.1, fun l => by have := h.2.1 l; omega, fun l _ => (h.2.1 l).2⟩
theorem getD_set (l : List Int) (i j : Nat) (x : Int) (hi : i < l.length) : (l.set i x).getD j 0 = if i = j then x else l.getD j 0 := by
  simp only [List.getD_eq_getElem?_getD, List.getElem?_set]
  split
  · simp
  · rfl
theorem Small.step {ps : List Int} {i j : Nat} {y : Int} (h : Small ps i j) (hij : i + j < 40) (hy : 0 ≤ y ∧ y ≤ 65025) : Small (ps.set (i + j) (ps.getD (i + j) 0 + y)) i (j + 1) := by
  have hl : i + j < ps.length := by rw [h.1]; exact hij
  have h1 := h.2.1 (i + j)
  have h2 := h.2.2 (i + j) (Nat.le_refl _)
  refine ⟨by rw [List.length_set]; exact h.1, fun l => ?_, fun l hlt => ?_⟩
  · rw [getD_set _ _ _ _ hl]
    split
    · omega
    · exact h.2.1 l
  · rw [getD_set _ _ _ _ hl, if_neg (by omega)]
    exact h.2.2 l (by omega)
theorem Small.bound {ps : List Int} {i j : Nat} (h : Small ps i j) (hi : i ≤ 18) : ∀ x ∈ ps, 0 ≤ x ∧ x < 16777216 := by
  intro x hx
  obtain ⟨l, hl, rfl⟩ := List.mem_iff_getElem.1 hx
  have := h.2.1 l
  rw [List.getD_eq_getElem?_getD, List.getElem?_eq_getElem hl, Option.getD_some] at this
  omega
end Go.Proofs.YtjelacblnjbfgaaDoor.Po
namespace Go.Proofs.YtjelacblnjbfgaaDoor.Po
open Go.RowKit Go.Shelf Mem Go.Proofs.YtjelacblnjbfgaaDoor.Sum
attribute [local irreducible] wpList wpListIn
end Go.Proofs.YtjelacblnjbfgaaDoor.Po
namespace Go.Proofs.YtjelacblnjbfgaaDoor.Ae
open Go.RowKit Go.Shelf Go.Proofs.YtjelacblnjbfgaaDoor Mem Help Go.Proofs.YtjelacblnjbfgaaDoor.Sum Po
attribute [local irreducible] wpList wpListIn
theorem size_32b : (Tryd.prog.info? 22).map (·.size) = some 32 := by kernel_rfl
theorem size_12b : (Tryd.prog.info? 41).map (·.size) = some 12 := by kernel_rfl
theorem size_1b : (Tryd.prog.info? 5).map (·.size) = some 1 := by kernel_rfl
theorem zero_32b : (Tryd.prog.info? 22).bind (·.zero) = some (.agg (arr .u8 (List.replicate 32 0))) := by kernel_rfl
end Go.Proofs.YtjelacblnjbfgaaDoor.Ae
namespace Go.Proofs.YtjelacblnjbfgaaDoor.Ae
open Go.RowKit Go.Shelf Go.Proofs.YtjelacblnjbfgaaDoor Mem Help Go.Proofs.YtjelacblnjbfgaaDoor.Sum Po
attribute [local irreducible] wpList wpListIn
end Go.Proofs.YtjelacblnjbfgaaDoor.Ae
namespace Go.Proofs.YtjelacblnjbfgaaDoor.Ae
open Go.RowKit Go.Shelf Go.Proofs.YtjelacblnjbfgaaDoor Mem Help Go.Proofs.YtjelacblnjbfgaaDoor.Sum Po
attribute [local irreducible] wpList wpListIn
end Go.Proofs.YtjelacblnjbfgaaDoor.Ae
namespace Go.Proofs.YtjelacblnjbfgaaDoor.Ky
open Go.RowKit Go.Shelf Go.Proofs.YtjelacblnjbfgaaDoor Mem Help Go.Proofs.YtjelacblnjbfgaaDoor.Sum Po Go.Proofs.YtjelacblnjbfgaaDoor.Range
attribute [local go_sem] Oper.semAt_some
attribute [local irreducible] wpList wpListIn
theorem order_any (A : Option Addr) (m c : Nat) (w : World) :
    Calls Tryd.prog 27 #[.slice A m c] w fun e w' => e = .returned (.func (.func 43) #[] #[.pointer (some ⟨w.heap.size, 0, none⟩)]) ∧ w' = w.alloc (.cells #[.slice A m c] 90) := by
  go_enter Tryd.func27, Tryd.ntmps27
  go_wp2
  go_ret
  exact ⟨rfl, rfl⟩
theorem order_prefix (zs : List Int) {k : Nat} (hk : k < zs.length) : zs.take k ++ [zs.getD k 0] = zs.take (k + 1) := by
  rw [List.take_succ_eq_append_getElem hk, List.getD_eq_getElem?_getD, List.getElem?_eq_getElem hk]
  rfl
def Num (x : Int) (B0 : Nat) (W : World) (args : Array Value) : Prop := args = #[.int .u64 x]
set_option maxRecDepth 100000 in
set_option maxHeartbeats 2000000 in
theorem order_give (n bx : Nat) (S : Nat → Prop) (A : Option Addr) (m c : Nat) (zs : List Int) (w : World) (hbx : w.cell? ⟨bx, 0, none⟩ = some (.slice A m c)) (hbS : ¬ S bx) (h : IntsN w .u64 S A m zs) (hm : m ≤ 1073741824) :
    SeqGive Fence.wide n Tryd.prog 43 #[.pointer (some ⟨bx, 0, none⟩)] Num (Only S) zs w := by
  intro l J W hW hJ hY h0
  have kbx := (hW.cell (p := ⟨bx, 0, none⟩) (World.block_lt_of_cell? w _ hbx)).trans hbx
  have kv := h.only (Only.of_below hW)
  have HL := Lib.hid h.1
  have hmi : (m : Int) ≤ 1073741824 := by omega
  clear hbx h
  refine callsIn_of_wp Tryd.func43 rfl trivial ?_ rfl
  simp only [Tryd.ntmps43, List.size_toArray, List.length_cons, List.length_nil, Nat.reduceAdd, Nat.reduceSub, Array.replicate_succ, Array.replicate_zero, List.push_toArray, List.append_toArray, List.nil_append, List.cons_append]
  gi_wp2_with fail
  gi_loopw [7] (fun i wr => ∃ k : Nat, k ≤ m ∧ i = .int .i64 k ∧ J (zs.take k) wr ∧ Only S W wr) (fun i _ => m - (intOf i).toNat)
  case atStart => exact ⟨0, by omega, rfl, by simpa using h0, Only.refl _ _⟩
  case round =>
    obtain ⟨k, hk, rfl, Jk, ok⟩ := hrel
    by_cases hlt : k < m
    · obtain ⟨b, off, rfl, hbS', hc⟩ := (kv.only ok).2.2 (by omega)
      have hck := hc k hlt
      have hkl : k < zs.length := by rw [HL.out]; exact hlt
      have HP := Lib.hid (order_prefix zs hkl)
      have hpre : zs.take k ++ [zs.getD k 0] <+: zs := by rw [HP.out]; exact List.take_prefix _ _
      generalize zs.getD k 0 = v at hck HP hpre
      obtain ⟨fn, tmps, assign, body, hy, hR⟩ := hY (zs.take k) v #[.int .u64 v] wr wr Jk (World.grownBy.refl _ _) rfl hpre
      have hlt' : (k : Int) < (m : Int) := by omega
      have hk0 : (0 : Int) ≤ (k : Int) := by omega
      clear hpre hc
      gi_wp2_with fail
      refine ⟨fun h => (by cases h), ?_⟩
      refine hR.mono ?_
      rintro e W4 ⟨rfl, J4, o4⟩
      rw [HP.out] at J4
      gi_wp2_with fail
      go_roundw
      case rel => exact ⟨k + 1, by omega, by go_num, J4, ok.trans o4⟩
      case measure => simp [intOf]; omega
    · have hkm : k = m := by omega
      subst hkm
      rw [List.take_of_length_le (by rw [HL.out]; omega)] at Jk
      gi_wp2_with fail
      go_end0
      exact ⟨⟨_, rfl⟩, Jk⟩
end Go.Proofs.YtjelacblnjbfgaaDoor.Ky
namespace Go.Proofs.YtjelacblnjbfgaaDoor.Mem
open Go.RowKit
def OwnM (w : World) (base : Nat) (t : TypeId) (k : IntKind) (v : Value) (zs : List Int) : Prop :=
  (∀ z ∈ zs, (Lit.int k z).wf = true) ∧ ((v = .slice none 0 0 ∧ zs = []) ∨ ∃ (g cap : Nat) (cur : Array Value) (fz : Nat × Nat), v = .slice (some ⟨g, 0, none⟩) zs.length cap ∧ base ≤ g ∧ w.heap[g]? = some (.cells cur t fz) ∧ (fz = (0, 0) ∨ cap ≤ fz.1) ∧
    zs.length ≤ cap ∧ cap ≤ maxLen ∧ cur.size = cap ∧ cur.toList.take zs.length = zs.map (Value.int k))
section
variable {w w' : World} {base : Nat} {t : TypeId} {k : IntKind} {v : Value} {zs : List Int}
theorem OwnM.nil (w : World) (base : Nat) (t : TypeId) (k : IntKind) : OwnM w base t k (.slice none 0 0) [] := ⟨by simp, .inl ⟨rfl, rfl⟩⟩
theorem OwnM.of (h : Own w base t k v zs) : OwnM w base t k v zs := by
  refine ⟨h.1, ?_⟩
  rcases h.2.2 with ⟨e, h0⟩ | ⟨g, cap, cur, e, hb, hg, hn, hm, hs, ht⟩
  · exact .inl ⟨e, List.eq_nil_of_length_eq_zero h0⟩
  · exact .inr ⟨g, cap, cur, (0, 0), e, hb, hg, .inl rfl, hn, hm, by simpa using hs, by simpa using ht⟩
theorem OwnM.lt (h : OwnM w base t k v zs) : ∀ b, v.ownBlock = some b → base ≤ b ∧ b < w.heap.size := fun b hb => by
  rcases h.2 with ⟨rfl, _⟩ | ⟨g, cap, cur, fz, rfl, hg, hc, _⟩
  · cases hb
  · cases hb
    exact ⟨hg, (Array.getElem?_eq_some_iff.1 hc).1⟩
theorem OwnM.obj (h : OwnM w base t k v zs) {b : Nat} (hb : v.ownBlock = some b) : ∃ cs fz, w.heap[b]? = some (.cells cs t fz) := by
  rcases h.2 with ⟨rfl, _⟩ | ⟨g, cap, cur, fz, rfl, hg, hc, _⟩
  · cases hb
  · cases hb
    exact ⟨_, _, hc⟩
theorem OwnM.ne (h : OwnM w base t k v zs) {row : Option Nat} (hr : ∀ r, row = some r → ∃ o : Obj, w.heap[r]? = some o ∧ o.isCells = false) : v.ownBlock = none ∨ v.ownBlock ≠ row := by
  cases hb : v.ownBlock with
  | none => exact .inl rfl
  | some b =>
    refine .inr fun e => ?_
    obtain ⟨o, ho, hc⟩ := hr b e.symm
    obtain ⟨cs, fz, h1⟩ := h.obj hb
    rw [h1] at ho
    cases ho
    cases hc
theorem OwnM.kept {row : Option Nat} (h : OwnM w base t k v zs) (hg : w.grownBy w' row) (hne : v.ownBlock = none ∨ v.ownBlock ≠ row) : OwnM w' base t k v zs := by
  refine ⟨h.1, ?_⟩
  rcases h.2 with h0 | ⟨g, cap, cur, fz, rfl, hb, hc, rest⟩
  · exact .inl h0
  · refine .inr ⟨g, cap, cur, fz, rfl, hb, (hg.block g (Array.getElem?_eq_some_iff.1 hc).1 ?_).trans hc, rest⟩
    rcases hne with h1 | h1
    · cases h1
    · exact h1
theorem OwnM.below (h : OwnM w base t k v zs) (hb : Below w.heap.size w w') : OwnM w' base t k v zs := h.kept (grown_of_below hb none) (by cases v.ownBlock <;> simp)
theorem OwnM.less (h : OwnM w base t k v zs) {b : Nat} (hb : b ≤ base) : OwnM w b t k v zs := by
  refine ⟨h.1, ?_⟩
  rcases h.2 with h0 | ⟨g, cap, cur, fz, rfl, hg, rest⟩
  · exact .inl h0
  · exact .inr ⟨g, cap, cur, fz, rfl, Nat.le_trans hb hg, rest⟩
theorem OwnM.form (h : OwnM w base t k v zs) : ∃ A c, v = .slice A zs.length c ∧ zs.length ≤ c ∧ c ≤ maxLen ∧ Ints w k w.heap.size A zs.length zs := by
  rcases h.2 with ⟨rfl, rfl⟩ | ⟨g, cap, cur, fz, rfl, hg, hc, hf, hn, hm, hs, ht⟩
  · exact ⟨none, 0, rfl, Nat.le_refl _, by simp [maxLen], Ints.nil _ _ _ _⟩
  · refine ⟨some ⟨g, 0, none⟩, cap, rfl, hn, hm, rfl, h.1, fun _ => ⟨g, 0, rfl, (Array.getElem?_eq_some_iff.1 hc).1, fun i hi => ?_⟩⟩
    rw [Nat.zero_add, cell_of_row w g i cur t fz hc]
    have e : cur.toList[i]? = (cur.toList.take zs.length)[i]? := by rw [List.getElem?_take, if_pos hi]
    rw [Array.getElem?_toList] at e
    rw [e, ht, List.getElem?_map, List.getD_eq_getElem?_getD, List.getElem?_eq_getElem hi]
    rfl
theorem OwnM.ints {A : Option Addr} {n c : Nat} (h : OwnM w base t k (.slice A n c) zs) (hl : zs.length = n) : Ints w k w.heap.size A n zs := by
  obtain ⟨A', c', e, _, _, hi⟩ := h.form
  injection e with e1 e2 _
  subst e1
  rw [hl] at hi
  exact hi
theorem OwnM.head {A : Option Addr} {n c : Nat} (h : OwnM w base t k (.slice A n c) zs) (h0 : 0 < n) : ∃ g, A = some ⟨g, 0, none⟩ ∧ base ≤ g ∧ w.rangeAt g 0 (zs.map (Value.int k)) := by
  obtain ⟨A', c', e, h1, h2, hi⟩ := h.form
  rcases h.2 with ⟨e', _⟩ | ⟨g, cap, cur, fz, e', hg, _⟩
  · cases e'; omega
  · injection e' with e1 e2 e3
    injection e with f1 f2 f3
    subst e1
    subst f1
    refine ⟨g, rfl, hg, fun j v hv => ?_⟩
    have hj : j < zs.length := by simpa using (List.getElem?_eq_some_iff.1 hv).1
    obtain ⟨b, off, q, _, hc⟩ := hi.at_ hj
    cases q
    rw [hc, ← hv]
    simp [List.getD_eq_getElem?_getD, hj]
theorem OwnM.caps {A : Option Addr} {n c : Nat} (h : OwnM w base t k (.slice A n c) zs) : zs.length = n ∧ n ≤ c ∧ c ≤ maxLen := by
  obtain ⟨A', c', e, h1, h2, _⟩ := h.form
  injection e with e1 e2 e3
  subst e2
  subst e3
  exact ⟨rfl, h1, h2⟩
end
theorem addr_add (g o j : Nat) : (Addr.mk g o none).add j = ⟨g, o + j, none⟩ := by unfold Addr.add; split <;> simp_all
theorem run_append_fits_one {P : Program} (w : World) (ts ty e : TypeId) (k : IntKind) (i : TypeInfo) (ht : P.underlying ts = some (.slice e)) (hi : P.info? e = some i) (hs : i.size = 1) (g n cap : Nat) (cur : Array Value) (fz : Nat × Nat)
    (hg : w.heap[g]? = some (.cells cur e fz)) (hf : fz = (0, 0) ∨ cap ≤ fz.1) (hc : cur.size = cap) (hn : n + 1 ≤ cap) (ad : Addr) (c : Nat) (z : Int) (hz : w.cell? ad = some (.int k z)) (had : ad.add 0 = ad) :
    (Builtin.append_ #[ts, ts] ty #[.slice (some ⟨g, 0, none⟩) n cap, .slice (some ad) 1 c]).run P w = .ok (.slice (some ⟨g, 0, none⟩) (n + 1) cap) (w.setCell ⟨g, n, none⟩ (.int k z)) := by
  have hl := run_firstCells_some (P := P) w 1 1 ad 1 c [.int k z] rfl (fun j u hu => by
    cases j with
    | zero => simp at hu; subst hu; rw [had]; exact hz
    | succ j => simp at hu)
  have hcell : w.cell? ⟨g, n, none⟩ = some (cur[n]'(by omega)) := by rw [cell_of_row w g n cur e fz hg, Array.getElem?_eq_getElem]
  have hfr : w.frozen? ⟨g, n, none⟩ = false := by
    simp only [World.frozen?, hg]
    rcases hf with rfl | h
    · simp
    · simp only [Bool.and_eq_false_iff, decide_eq_false_iff_not]
      left
      omega
  simp [Builtin.append_, run_underlying ht, sizeOf, typeInfo, hi, hs, Builtin.lenOf, hn, hl, addr_add, storeCells, run_store P w ⟨g, n, none⟩ (.int k z) _ rfl, hcell, hfr]
theorem run_append_oneM {P : Program} (w : World) (base : Nat) (ts ty e : TypeId) (k : IntKind) (bytes : Nat) (ht : P.underlying ts = some (.slice e))
    (hinfo : (P.info? e).map (fun i => (i.zero, i.size, i.bytes)) = some (some (.int k 0), 1, bytes)) (v : Value) (zs : List Int) (hown : OwnM w base e k v zs)
    (p c : Nat) (z : Int) (hr : w.cell? ⟨p, 0, none⟩ = some (.int k z)) (hwf : (Lit.int k z).wf = true) (hlen : zs.length + 1 ≤ 17592186044416) (hby : bytes ≤ 8) (hbase : base ≤ w.heap.size) :
    ∃ v' w', (Builtin.append_ #[ts, ts] ty #[v, .slice (some ⟨p, 0, none⟩) 1 c]).run P w = .ok v' w' ∧ OwnM w' base e k v' (zs ++ [z]) ∧ w.grownBy w' v.ownBlock ∧
      (v'.ownBlock = v.ownBlock ∨ v'.ownBlock = some w.heap.size) := by
  have hI : Ints w k w.heap.size (some ⟨p, 0, none⟩) 1 [z] := ⟨rfl, fun y hy => by rw [List.mem_singleton.1 hy]; exact hwf, fun _ => ⟨p, 0, rfl, World.block_lt_of_cell? w _ hr, fun i hi => by
    obtain rfl : i = 0 := by omega
    exact hr⟩⟩
  have hwf' : ∀ y ∈ zs ++ [z], (Lit.int k y).wf = true := fun y hy => by
    rcases List.mem_append.1 hy with h | h
    · exact hown.1 y h
    · rw [List.mem_singleton.1 h]; exact hwf
  rcases hown.2 with ⟨rfl, rfl⟩ | ⟨g, cap, cur, fz, rfl, hb, hg, hf, hn, hm, hs, htake⟩
  · obtain ⟨v', w', h1, h2, h3, h4⟩ := run_append_ints (P := P) w base ts ty e k bytes ht hinfo _ [] (Own.nil w base e k) w.heap.size _ 1 c [z] hI (by simp) hby hbase
    exact ⟨v', w', h1, OwnM.of h2, h3, h4⟩
  · obtain ⟨i, hi, hz, hsz, hbb⟩ := info_parts hinfo
    by_cases hroom : zs.length + 1 ≤ cap
    · refine ⟨_, _, run_append_fits_one w ts ty e k i ht hi hsz g zs.length cap cur fz hg hf hs hroom ⟨p, 0, none⟩ c z hr (addr_add _ _ _), ⟨hwf', .inr ⟨g, cap, cur.setIfInBounds zs.length (.int k z), fz, by simp, hb, ?_, hf, by simpa using hroom, hm, by simpa using hs, ?_⟩⟩, grown_setCell w g _ _, .inl rfl⟩
      · simp [World.setCell, Array.getElem?_modify, hg]
      · rw [List.length_append, List.length_singleton, Array.toList_setIfInBounds, List.take_succ_eq_append_getElem (by simp; omega), List.take_set_of_le (Nat.le_refl _), htake]
        simp
    · have holds : ∀ j u, (zs.map (Value.int k))[j]? = some u → w.cell? ((⟨g, 0, none⟩ : Addr).add j) = some u := fun j u hu => by
        have hj : j < zs.length := by simpa using (List.getElem?_eq_some_iff.1 hu).1
        rw [addr_add, Nat.zero_add, cell_of_row w g j cur e fz hg, ← Array.getElem?_toList, ← hu, ← htake, List.getElem?_take, if_pos hj]
      have hr2 := run_append_grow (P := P) w ts ty e i (.int k 0) ht hi hz ⟨g, 0, none⟩ zs.length cap (zs.map (Value.int k)) (by simp [hsz]) holds ⟨p, 0, none⟩ 1 c [.int k z] (by simp [hsz]) (fun j u hu => by
        cases j with
        | zero => simp at hu; subst hu; rw [addr_add]; exact hr
        | succ j => simp at hu) (by omega) (by omega) (growslice_fits (by omega) (by rw [hbb]; exact Nat.le_trans (Nat.mul_le_mul hlen hby) (by omega)))
      have hge := grownCap_ge w (zs.length + 1) cap e
      have hcm : grownCap w (zs.length + 1) cap e ≤ maxLen := grownCap_le_maxLen w (zs.length + 1) cap e (by simp only [maxLen]; omega)
      refine ⟨_, _, hr2, ⟨hwf', .inr ⟨w.heap.size, _, _, (0, 0), by simp, hbase, heap_alloc_new w.drew _, .inl rfl, by simpa using hge, hcm, ?_, ?_⟩⟩, ⟨rfl, rfl, rfl, by simp, fun k hk _ => Below.heap_alloc w.drew _ k hk⟩, .inr rfl⟩
      · simp only [Array.size_append, List.size_toArray, size_zeroCells, List.length_map, List.length_singleton, Value.cells]
        simp
        omega
      · simp only [Array.toList_append, List.append_assoc, List.length_append, List.length_singleton]
        rw [← List.append_assoc, List.take_left' (by simp)]
        simp
theorem own_text (w : World) (e : TypeId) (s : ByteArray) (zs : List Int) (hs : s.data.toList.map (fun b => (b.toNat : Int)) = zs) (hm : s.size ≤ 1048576) : OwnM (Lib.bytesWorld w e s) w.heap.size e .u8 (.slice (some ⟨w.heap.size, 0, none⟩) s.size (grownCap w s.size 0 e)) zs := by
  have hl : zs.length = s.size := by rw [← hs, List.length_map]; rfl
  have hge := grownCap_ge w s.size 0 e
  have hsz : (Lib.bytesCells w e s).size = grownCap w s.size 0 e := by
    simp only [Lib.bytesCells, Array.size_append, Array.size_map, Array.size_replicate]
    have : s.data.size = s.size := rfl
    omega
  refine ⟨fun z hz => ?_, .inr ⟨w.heap.size, grownCap w s.size 0 e, Lib.bytesCells w e s, ((Lib.bytesCells w e s).size, (Lib.bytesCells w e s).size + 1), by rw [hl], Nat.le_refl _, ?_, .inr (by simp [hsz]), by rw [hl]; exact hge, grownCap_le_maxLen w s.size 0 e (by simp only [maxLen]; omega), hsz, ?_⟩⟩
  · rw [← hs] at hz
    obtain ⟨b, _, rfl⟩ := List.mem_map.1 hz
    have := b.toNat_lt
    simp [Lit.wf, IntKind.min, IntKind.max, IntKind.signed, IntKind.bits]
    omega
  · simp [Lib.bytesWorld, World.freeze, World.alloc, World.drew, -World.alloc_eq, -World.drew_eq, Array.getElem_modify]
  · rw [hl]
    simp only [Lib.bytesCells, Array.toList_append, Array.toList_map, ← hs]
    rw [List.take_left' (by rw [List.length_map]; rfl), List.map_map]
    rfl
end Go.Proofs.YtjelacblnjbfgaaDoor.Mem
namespace Go.Proofs.YtjelacblnjbfgaaDoor.Ky
open Go.RowKit Go.Shelf Go.Proofs.YtjelacblnjbfgaaDoor Mem Help Go.Proofs.YtjelacblnjbfgaaDoor.Sum Po Go.Proofs.YtjelacblnjbfgaaDoor.Range
theorem digits_snoc : ∀ (k : Nat) (x : Int), digits x (k + 1) = digits x k ++ [x / 2 ^ (8 * k) % 256]
  | 0, x => by simp [digits]
  | k + 1, x => by
    rw [digits, digits_snoc k (x / 256), digits, List.cons_append]
    congr 2
    rw [show (2 : Int) ^ (8 * (k + 1)) = 256 * 2 ^ (8 * k) by rw [show 8 * (k + 1) = 8 * k + 8 by omega, Int.pow_add]; omega, Int.ediv_ediv_of_nonneg (by omega)]
theorem eights_snoc (pre : List Int) (x : Int) : eights (pre ++ [x]) = eights pre ++ digits x 8 := by simp [eights]
def Turns (lb : Nat) (O : Option Nat) (b : Nat) : Prop := lb ≤ b ∨ O = some b
structure Buf (w : World) (B lb : Nat) (O : Option Nat) (v : Value) (zs : List Int) (W : World) : Prop where
  le : B ≤ lb
  cell : W.heap[lb]? = some (.cells #[v] 27 (0, 0))
  own : OwnM W B 5 .u8 v zs
  free : ∀ b, v.ownBlock = some b → b ≠ lb ∧ Turns lb O b
  below : Below B w W
section
variable {w W W' : World} {B lb : Nat} {O : Option Nat} {v : Value} {zs : List Int}
theorem Buf.low (h : Buf w B lb O v zs W) : lb < W.heap.size := (Array.getElem?_eq_some_iff.1 h.cell).1
theorem Buf.keep (h : Buf w B lb O v zs W) {row : Option Nat} (hg : W.grownBy W' row) (hr : ∀ r, row = some r → B ≤ r ∧ ∃ o : Obj, W.heap[r]? = some o ∧ o.isCells = false) : Buf w B lb O v zs W' :=
  ⟨h.le, Held.keep_cells h.cell hg (Held.ne_of_cells h.cell (fun r e => (hr r e).2)), h.own.kept hg (h.own.ne (fun r e => (hr r e).2)), h.free, h.below.grown hg (Nat.le_trans h.le (Nat.le_of_lt h.low)) (fun r e => (hr r e).1)⟩
theorem Buf.grow (h : Buf w B lb O v zs W) (hg : W.grownBy W' none) : Buf w B lb O v zs W' := h.keep hg (fun r e => by cases e)
theorem Buf.step {wb wa ws : World} {v2 : Value} {zs2 : List Int} (h : Buf w B lb O v zs W) (gb : Below W.heap.size W wb) (ga : wb.grownBy wa v.ownBlock) (hn : v2.ownBlock = v.ownBlock ∨ v2.ownBlock = some wb.heap.size)
    (oa : OwnM wa B 5 .u8 v2 zs2) (ls : ws.heap[lb]? = some (.cells #[v2] 27 (0, 0))) (gs : wa.grownBy ws (some lb)) :
    Buf w B lb O v2 zs2 ws ∧ KeepsOthers W ws ∧ Only (Turns lb O) W ws := by
  have hl := h.low
  have g1 : W.grownBy wb none := grown_of_below gb none
  have hb := h.grow g1
  have hne : some lb ≠ v.ownBlock := fun e => (h.free lb e.symm).1 rfl
  have hla := Held.keep_cells hb.cell ga hne
  have free2 : ∀ b, v2.ownBlock = some b → b ≠ lb ∧ Turns lb O b := fun b e => by
    rcases hn with q | q
    · rw [q] at e; exact h.free b e
    · rw [q] at e
      injection e with e
      have := hb.low
      exact ⟨by omega, .inl (by omega)⟩
  have hBb : B ≤ wb.heap.size := Nat.le_trans hb.le (Nat.le_of_lt hb.low)
  refine ⟨⟨h.le, ls, oa.kept gs ?_, free2, ?_⟩, ?_, ?_⟩
  · cases hq : v2.ownBlock with
    | none => exact .inl rfl
    | some b => exact .inr fun e => by injection e with e; exact (free2 b hq).1 e
  · refine (hb.below.grown ga hBb (fun r e => ?_)).grown gs (Nat.le_trans hBb ga.size) (fun r e => by cases e; exact h.le)
    exact (hb.own.lt r e).1
  · refine ((Held.others_of_new g1).trans (KeepsOthers.of_grownBy ga (fun j o e ho => ?_))).trans (Held.others_of_grown hla gs)
    obtain ⟨cs, fz, hcs⟩ := hb.own.obj e
    rw [hcs] at ho
    cases ho
    rfl
  · exact ((Only.of_grown g1 (fun r e => by cases e)).trans (Only.of_grown ga (fun r e => (h.free r e).2))).trans (Only.of_grown gs (fun r e => by cases e; exact .inl (Nat.le_refl _)))
end
section
variable {P : Program} {ops : Array Oper} {Q : Exit → Act → World → Prop}
theorem op_append_buf (i : Nat) (d : Option Tmp) {o : Oper} {a : Act} {w : World} {K : Act → World → Prop} {s x : Operand} (ts : TypeId) (hi : ops[i]? = some o) (hd : o.dst = d) (hw : Region.wanted o (yielded ops a.tmps) = true)
    (ho : o.op = .call { callee := .builtin .append, args := #[s, x], argTypes := #[ts, ts] }) (base : Nat) (e : TypeId) (k : IntKind) (bytes : Nat) (ht : P.underlying ts = some (.slice e))
    (hinfo : (P.info? e).map (fun i => (i.zero, i.size, i.bytes)) = some (some (.int k 0), 1, bytes)) (v : Value) (zs : List Int) (hs : a.eval s = v) (hown : OwnM w base e k v zs)
    (p c : Nat) (z : Int) (hx : a.eval x = .slice (some ⟨p, 0, none⟩) 1 c) (hr : w.cell? ⟨p, 0, none⟩ = some (.int k z)) (hwf : (Lit.int k z).wf = true) (hlen : zs.length + 1 ≤ 17592186044416) (hby : bytes ≤ 8) (hbase : base ≤ w.heap.size)
    (h : ∀ A' n' c' w', OwnM w' base e k (.slice A' n' c') (zs ++ [z]) → w.grownBy w' v.ownBlock → ((Value.slice A' n' c').ownBlock = v.ownBlock ∨ (Value.slice A' n' c').ownBlock = some w.heap.size) → n' ≤ c' → c' ≤ maxLen → Hid ((zs ++ [z]).length = n') → K (a.put d (.slice A' n' c')) w') : wpOp P ops Q i K a w := by
  subst hd
  refine Held.op_wp i hi hw ?_
  obtain ⟨v', w', hrun, h2, h3, h7⟩ := run_append_oneM (P := P) w base ts o.type e k bytes ht hinfo v zs hown p c z hr hwf hlen hby hbase
  obtain ⟨A', c', rfl, h4, h5, h6⟩ := h2.form
  exact Lib.wp_append_run w s x ts ts ho _ _ hs hx _ w' hrun (h _ _ _ w' h2 h3 h7 h4 h5 (Lib.hid rfl))
end
end Go.Proofs.YtjelacblnjbfgaaDoor.Ky
