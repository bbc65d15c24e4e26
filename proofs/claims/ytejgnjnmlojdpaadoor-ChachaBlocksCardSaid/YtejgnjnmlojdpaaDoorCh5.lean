/-
  The document's own Block by its contract. Conditions: a key of 32 bytes, a nonce of 12, a counter of 32 bits.
-/
import Derived.Test.YtejgnjnmlojdpaaDoorCh4
namespace Go.Proofs.YtejgnjnmlojdpaaDoor.Cha
open Go.RowKit Go.Shelf Go.Proofs.YtejgnjnmlojdpaaDoor.Mem Go.Proofs.YtejgnjnmlojdpaaDoor.Help Go.Proofs.YtejgnjnmlojdpaaDoor.Sum Go.Proofs.YtejgnjnmlojdpaaDoor.Cc Go.Proofs.YtejgnjnmlojdpaaDoor.Sha Go.Proofs.YtejgnjnmlojdpaaDoor
set_option linter.unusedVariables false
attribute [local irreducible] wpList wpListIn

theorem start_sigma (key : List Int) (ctr : Int) (nonce : List Int) : Upto (first key ctr nonce) 4 (sigma ++ List.replicate 12 0) := by
  refine ⟨by rw [first_length]; simp [sigma], fun i hi => ?_⟩
  simp only [first, List.getD_eq_getElem?_getD]
  rw [List.getElem?_append_left (by simpa [sigma] using hi), List.getElem?_append_left (by simpa [sigma] using hi)]
theorem block_last {key : List Int} {ctr : Int} {nonce zs : List Int} {i : Nat} (hi : i < 64) (h : Upto (Cc.block key ctr nonce) i zs) : Upto (Cc.block key ctr nonce) (i + 1) (zs.set i (addI ((turns 10 (first key ctr nonce)).getD (i / 4) 0) ((first key ctr nonce).getD (i / 4) 0) / 2 ^ (8 * (i % 4)) % 256)) := by
  have := h.set (by rw [block_length]; exact hi)
  rwa [block_get _ _ _ hi] at this

theorem round_lit0 (s : List Int) (w : World) (hs : Sixteen s) : Calls Tryd.prog 26 #[.agg (arr .u32 s), .int .i64 0, .int .i64 4, .int .i64 8, .int .i64 12] w fun e w' => e = .returned (.agg (arr .u32 (at4 s 0 4 8 12))) ∧ Below w.heap.size w w' := round_any s 0 4 8 12 w hs (by omega) (by omega) (by omega) (by omega)
theorem round_lit1 (s : List Int) (w : World) (hs : Sixteen s) : Calls Tryd.prog 26 #[.agg (arr .u32 s), .int .i64 1, .int .i64 5, .int .i64 9, .int .i64 13] w fun e w' => e = .returned (.agg (arr .u32 (at4 s 1 5 9 13))) ∧ Below w.heap.size w w' := round_any s 1 5 9 13 w hs (by omega) (by omega) (by omega) (by omega)
theorem round_lit2 (s : List Int) (w : World) (hs : Sixteen s) : Calls Tryd.prog 26 #[.agg (arr .u32 s), .int .i64 2, .int .i64 6, .int .i64 10, .int .i64 14] w fun e w' => e = .returned (.agg (arr .u32 (at4 s 2 6 10 14))) ∧ Below w.heap.size w w' := round_any s 2 6 10 14 w hs (by omega) (by omega) (by omega) (by omega)
theorem round_lit3 (s : List Int) (w : World) (hs : Sixteen s) : Calls Tryd.prog 26 #[.agg (arr .u32 s), .int .i64 3, .int .i64 7, .int .i64 11, .int .i64 15] w fun e w' => e = .returned (.agg (arr .u32 (at4 s 3 7 11 15))) ∧ Below w.heap.size w w' := round_any s 3 7 11 15 w hs (by omega) (by omega) (by omega) (by omega)
theorem round_lit4 (s : List Int) (w : World) (hs : Sixteen s) : Calls Tryd.prog 26 #[.agg (arr .u32 s), .int .i64 0, .int .i64 5, .int .i64 10, .int .i64 15] w fun e w' => e = .returned (.agg (arr .u32 (at4 s 0 5 10 15))) ∧ Below w.heap.size w w' := round_any s 0 5 10 15 w hs (by omega) (by omega) (by omega) (by omega)
theorem round_lit5 (s : List Int) (w : World) (hs : Sixteen s) : Calls Tryd.prog 26 #[.agg (arr .u32 s), .int .i64 1, .int .i64 6, .int .i64 11, .int .i64 12] w fun e w' => e = .returned (.agg (arr .u32 (at4 s 1 6 11 12))) ∧ Below w.heap.size w w' := round_any s 1 6 11 12 w hs (by omega) (by omega) (by omega) (by omega)
theorem round_lit6 (s : List Int) (w : World) (hs : Sixteen s) : Calls Tryd.prog 26 #[.agg (arr .u32 s), .int .i64 2, .int .i64 7, .int .i64 8, .int .i64 13] w fun e w' => e = .returned (.agg (arr .u32 (at4 s 2 7 8 13))) ∧ Below w.heap.size w w' := round_any s 2 7 8 13 w hs (by omega) (by omega) (by omega) (by omega)
theorem round_lit7 (s : List Int) (w : World) (hs : Sixteen s) : Calls Tryd.prog 26 #[.agg (arr .u32 s), .int .i64 3, .int .i64 4, .int .i64 9, .int .i64 14] w fun e w' => e = .returned (.agg (arr .u32 (at4 s 3 4 9 14))) ∧ Below w.heap.size w w' := round_any s 3 4 9 14 w hs (by omega) (by omega) (by omega) (by omega)
set_option maxRecDepth 100000 in
set_option maxHeartbeats 4000000 in
theorem rblock_any (key nonce : List Int) (ctr : Int) (w : World) (hk : key.length = 32) (hkb : Bs key) (hn : nonce.length = 12) (hnb : Bs nonce) (hc : R32 ctr) :
    Calls Tryd.prog 11 #[.agg (arr .u8 key), .int .u32 ctr, .agg (arr .u8 nonce)] w fun e w' => e = .returned (.agg (arr .u8 (Cc.block key ctr nonce))) ∧ Below w.heap.size w w' := by
  have zero_16 : (Tryd.prog.info? 48).bind (·.zero) = some (.agg (arr .u32 (List.replicate 16 0))) := by kernel_rfl
  have HK := Lib.hid hk
  have HN := Lib.hid hn
  clear hk hn
  have HBL := Lib.hid (block_length key ctr nonce)
  have HBW := Lib.hid (block_bytes key ctr nonce)
  have HBS := Lib.hid (fun i zs (h1 : i < 64) (h2 : Upto (Cc.block key ctr nonce) i zs) => block_last (key := key) (ctr := ctr) (nonce := nonce) h1 h2)
  have HV := Lib.hid (fun k => (sixteen_first hkb hnb hc).turns k)
  have FK := Lib.hid (fun t (ht : t < 8) => first_key key ctr nonce ht)
  have FC := Lib.hid (first_ctr key ctr nonce)
  have FN := Lib.hid (fun t (ht : t < 3) => first_nonce key ctr nonce ht)
  have FL := Lib.hid (first_length key ctr nonce)
  have FS := Lib.hid (sixteen_first hkb hnb hc)
  have LK := Lib.hid (fun t (ht : 4 * t + 4 ≤ 32) => lew_of key t ht HK.out)
  have LN := Lib.hid (fun t (ht : 4 * t + 4 ≤ 12) => lew_of nonce t ht HN.out)
  obtain ⟨F, hF⟩ : ∃ F, first key ctr nonce = F := ⟨_, rfl⟩
  have u4 := start_sigma key ctr nonce
  rw [hF] at u4 FC FL FS
  simp only [hF] at FK FN HBS HV
  have HF := Lib.hid hF
  clear hF
  have hsw : ∀ z ∈ sigma ++ List.replicate 12 0, (Lit.int .u32 z).wf = true := by decide
  go_enter Tryd.func11, Tryd.ntmps11
  go_wp2_with (first
    | (refine wpList_box_Row (w := w) rfl 22 _ rfl .u8 key rfl (bs_wf hkb) ?_; intro w1 r1 g1 z1)
    | (refine wpList_box_Row (w := w1) rfl 24 _ rfl .u8 nonce rfl (bs_wf hnb) ?_; intro w2 r2 g2 z2)
    | (refine wpList_alloc_Row (w := w2) rfl 29 rfl .u8 64 zero_64 ?_; intro w3 r3 g3 z3)
    | (refine wpList_build_Row (w := w3) rfl 48 _ rfl .u32 (sigma ++ List.replicate 12 0) (by kernel_rfl) ?_)
    | (refine wpList_alloc_Row (w := w3) rfl 48 rfl .u32 16 zero_16 ?_; intro w4 r4 g4 z4)
    | (refine wpList_store_RowTo (w := w4) rfl 48 _ _ rfl w3.heap.size rfl 48 .u32 _ (sigma ++ List.replicate 12 0) rfl r4 16 info_16 rfl (by simp) hsw ?_; intro w5 r5 g5 z5))
  -- names of the blocks
  obtain ⟨gn, hgn⟩ : ∃ g, w1.heap.size = g := ⟨_, rfl⟩
  obtain ⟨gr, hgr⟩ : ∃ g, w2.heap.size = g := ⟨_, rfl⟩
  obtain ⟨gf, hgf⟩ : ∃ g, w3.heap.size = g := ⟨_, rfl⟩
  have l1 := r1.lt
  have l2 := r2.lt
  have l3 := r3.lt
  have l5 := r5.lt
  have s4 := g4.size
  have s5 := g5.size
  have b5 : Below w.heap.size w w5 := (((((Below.refl _ w).grown g1 (Nat.le_refl _) (by simp)).grown g2 g1.size (by simp)).grown g3 (by omega) (by simp)).grown g4 (by omega) (by simp)).grown g5 (by omega) (fun r e => by cases e; omega)
  have k5 := (((r1.grown g2 (by simp)).grown g3 (by simp)).grown g4 (by simp)).grown g5 (by intro e; injection e with e; omega)
  have n5 := ((r2.grown g3 (by simp)).grown g4 (by simp)).grown g5 (by intro e; injection e with e; omega)
  have o5 := (r3.grown g4 (by simp)).grown g5 (by intro e; injection e with e; omega)
  rw [hgn] at l1 l2 n5
  rw [hgr] at l2 l3 o5
  rw [hgf] at l3 l5 r5 ⊢
  rw [hgn, hgr]
  clear hgn hgr hgf r1 r2 r3 r4 g1 g2 g3 g4 g5 z1 z2 z3 z4 z5 s4 s5 l5
  obtain ⟨y5, hy5⟩ : ∃ y, sigma ++ List.replicate 12 0 = y := ⟨_, rfl⟩
  rw [hy5] at r5 u4
  clear hy5 hsw
  go_loopw [8] (fun i wr => ∃ k : Nat, k ≤ 8 ∧ i = .int .i64 k ∧ Below w.heap.size w wr ∧ Row wr w.heap.size 22 .u8 key ∧ Row wr gn 24 .u8 nonce ∧ Row wr gr 29 .u8 (List.replicate 64 0) ∧ ∃ zs, Row wr gf 48 .u32 zs ∧ Upto F (4 + k) zs) (fun i _ => 8 - (intOf i).toNat)
  case atStart => exact ⟨0, by omega, rfl, b5, k5, n5, o5, y5, r5, u4⟩
  case round =>
    clear b5 k5 n5 o5 r5 u4
    obtain ⟨k, hk, rfl, hbl, kr, nr, er, zs, sr, hu⟩ := hrel
    have hk0 : (0 : Int) ≤ (k : Int) := by omega
    by_cases hlt : k < 8
    · have hlt' : (k : Int) < 8 := by omega
      have hsl : ∀ W, (Instr.sliceAt 22 (.pointer (some ⟨w.heap.size, 0, none⟩)) (some (.int .i64 (4 * (k : Int)))) (some (.int .i64 (4 * (k : Int) + 4))) none).run Tryd.prog W = .ok (.slice (some ⟨w.heap.size, 4 * k, none⟩) 4 (32 - 4 * k)) W := fun W => by
        have := run_slice_arr_lh (P := Tryd.prog) 22 5 32 w.heap.size (4 * k) (4 * k + 4) W Tryd.underlying22 (by kernel_rfl) (by omega) (by omega) (by omega)
        rw [show 4 * k + 4 - 4 * k = 4 by omega] at this
        exact this
      have ik := kr.mid (l := 4 * k) (m := 4) (by rw [HK.out]; omega)
      go_wp2_with fail
      refine (rword_any w.heap.size (4 * k) 4 (32 - 4 * k) _ _ wr ik rfl).mono ?_
      rintro e w6 ⟨rfl, st⟩
      rw [LK.out k (by omega), ← FK.out k hlt]
      have kr6 := kr.below (st.below _) kr.lt
      have nr6 := nr.below (st.below _) nr.lt
      have er6 := er.below (st.below _) er.lt
      have sr6 := sr.below (st.below _) sr.lt
      have hb6 := hbl.trans (st.below _)
      have HU := Lib.hid (hu.set (by rw [FL.out]; omega))
      have hr32 : R32 (F.getD (4 + k) 0) := FS.out.get (by omega)
      have HZ := Lib.hid hu.1
      clear ik hsl hbl kr nr er sr
      generalize F.getD (4 + k) 0 = x at *
      go_wp2_with (refine wpList_store_elem (w := w6) rfl 23 _ _ rfl gf (4 + k) rfl 48 .u32 _ _ rfl sr6 (by rw [HZ.out, FL.out]; omega) info_u32 (wf_32 hr32) ?_; intro w7 q7 g7 z7)
      go_roundw
      case rel => exact ⟨k + 1, by omega, by go_num, hb6.grown g7 hb6.size (fun r e => by cases e; omega), kr6.grown g7 (by intro e; injection e with e; omega), nr6.grown g7 (by intro e; injection e with e; omega), er6.grown g7 (by intro e; injection e with e; omega), _, q7, HU.out⟩
      case measure => simp [intOf]; omega
    · have hk8 : k = 8 := by omega
      subst hk8
      have HU := Lib.hid (hu.set (by rw [FL.out]; omega))
      have HZ := Lib.hid hu.1
      rw [FC.out] at HU
      go_wp2_with (refine wpList_store_elem (w := wr) rfl 23 _ _ rfl gf 12 rfl 48 .u32 _ _ rfl sr (by rw [HZ.out, FL.out]; omega) info_u32 (wf_32 hc) ?_; intro w6 sr6 g6 z6)
      have hb6 := hbl.grown g6 hbl.size (fun r e => by cases e; omega)
      have nr6 := nr.grown g6 (by intro e; injection e with e; omega)
      have er6 := er.grown g6 (by intro e; injection e with e; omega)
      have hu6 := HU.out
      clear hbl kr nr er sr g6 z6 hu hk0
      go_loopw [9] (fun i wr => ∃ k : Nat, k ≤ 3 ∧ i = .int .i64 k ∧ Below w.heap.size w wr ∧ Row wr gn 24 .u8 nonce ∧ Row wr gr 29 .u8 (List.replicate 64 0) ∧ ∃ zs, Row wr gf 48 .u32 zs ∧ Upto F (13 + k) zs) (fun i _ => 3 - (intOf i).toNat)
      case atStart => exact ⟨0, by omega, rfl, hb6, nr6, er6, _, sr6, hu6⟩
      case round =>
        clear hb6 nr6 er6 sr6 hu6 HU HZ
        obtain ⟨k, hk, rfl, hbl, nr, er, zs, sr, hu⟩ := hrel
        have hk0 : (0 : Int) ≤ (k : Int) := by omega
        by_cases hlt : k < 3
        · have hlt' : (k : Int) < 3 := by omega
          have hsl : ∀ W, (Instr.sliceAt 24 (.pointer (some ⟨gn, 0, none⟩)) (some (.int .i64 (4 * (k : Int)))) (some (.int .i64 (4 * (k : Int) + 4))) none).run Tryd.prog W = .ok (.slice (some ⟨gn, 4 * k, none⟩) 4 (12 - 4 * k)) W := fun W => by
            have := run_slice_arr_lh (P := Tryd.prog) 24 5 12 gn (4 * k) (4 * k + 4) W Tryd.underlying24 (by kernel_rfl) (by omega) (by omega) (by omega)
            rw [show 4 * k + 4 - 4 * k = 4 by omega] at this
            exact this
          have ik := nr.mid (l := 4 * k) (m := 4) (by rw [HN.out]; omega)
          go_wp2_with fail
          refine (rword_any gn (4 * k) 4 (12 - 4 * k) _ _ wr ik rfl).mono ?_
          rintro e w6 ⟨rfl, st⟩
          rw [LN.out k (by omega), ← FN.out k hlt]
          have nr6 := nr.below (st.below _) nr.lt
          have er6 := er.below (st.below _) er.lt
          have sr6 := sr.below (st.below _) sr.lt
          have hb6 := hbl.trans (st.below _)
          have HU := Lib.hid (hu.set (by rw [FL.out]; omega))
          have hr32 : R32 (F.getD (13 + k) 0) := FS.out.get (by omega)
          have HZ := Lib.hid hu.1
          clear ik hsl hbl nr er sr
          generalize F.getD (13 + k) 0 = x at *
          go_wp2_with (refine wpList_store_elem (w := w6) rfl 23 _ _ rfl gf (13 + k) rfl 48 .u32 _ _ rfl sr6 (by rw [HZ.out, FL.out]; omega) info_u32 (wf_32 hr32) ?_; intro w7 q7 g7 z7)
          go_roundw
          case rel => exact ⟨k + 1, by omega, by go_num, hb6.grown g7 hb6.size (fun r e => by cases e; omega), nr6.grown g7 (by intro e; injection e with e; omega), er6.grown g7 (by intro e; injection e with e; omega), _, q7, HU.out⟩
          case measure => simp [intOf]; omega
        · have hk3 : k = 3 := by omega
          subst hk3
          have hz := hu.eq (by rw [FL.out]; omega)
          subst hz
          go_wp2_with (first
            | (refine wpList_load_Row (w := wr) rfl 48 _ rfl gf rfl 48 .u32 _ sr 16 23 Tryd.underlying48 info_16 FL.out ?_)
            | (refine wpList_alloc_Row (w := wr) rfl 48 rfl .u32 16 zero_16 ?_; intro w5 r5 g5 z5)
            | (refine wpList_store_RowTo (w := w5) rfl 48 _ _ rfl wr.heap.size rfl 48 .u32 _ zs rfl r5 16 info_16 FL.out (by simp) (fun z hz => wf_32 (FS.out.2 z hz)) ?_; intro w6 r6 g6 z6))
          obtain ⟨gv, hgv⟩ : ∃ g, wr.heap.size = g := ⟨_, rfl⟩
          have s5 := g5.size
          have ls := sr.lt
          have b6 : Below w.heap.size w w6 := (hbl.grown g5 hbl.size (by simp)).grown g6 (by have := hbl.size; omega) (fun r e => by have := hbl.size; cases e; omega)
          have o6 := (er.grown g5 (by simp)).grown g6 (by intro e; injection e with e; omega)
          have f6 := (sr.grown g5 (by simp)).grown g6 (by intro e; injection e with e; omega)
          rw [hgv] at r6 ls ⊢
          clear hgv r5 g5 g6 z5 z6 nr er sr hbl s5 hu hk0
          go_loopw [11] (fun i wr => ∃ k : Nat, k ≤ 10 ∧ i = .int .i64 k ∧ Below w.heap.size w wr ∧ Row wr gr 29 .u8 (List.replicate 64 0) ∧ Row wr gf 48 .u32 zs ∧ Row wr gv 48 .u32 (turns k zs)) (fun i _ => 10 - (intOf i).toNat)
          case atStart => exact ⟨0, by omega, rfl, b6, o6, f6, r6⟩
          case round =>
            clear b6 o6 f6 r6
            obtain ⟨k, hk, rfl, bb, bo, bf, bv⟩ := hrel
            have hk0 : (0 : Int) ≤ (k : Int) := by omega
            by_cases hlt : k < 10
            · have hlt' : (k : Int) < 10 := by omega
              have HTW := Lib.hid (show turns (k + 1) zs = twice (turns k zs) from rfl)
              have S0 := HV.out k
              obtain ⟨x0, hx0⟩ : ∃ x, turns k zs = x := ⟨_, rfl⟩
              rw [hx0] at bv S0 HTW
              clear hx0
              go_wp2_with (refine wpList_load_Row (w := wr) rfl 48 _ rfl gv rfl 48 .u32 _ bv 16 23 Tryd.underlying48 info_16 S0.1 ?_)
              refine (round_lit0 x0 wr S0).mono ?_
              rintro e v1 ⟨rfl, hb⟩
              have bb := bb.trans (hb.mono bb.size)
              have bo := bo.below hb bo.lt
              have bf := bf.below hb bf.lt
              have q1 := bv.below hb bv.lt
              clear hb
              have S1 := S0.at4 0 4 8 12
              obtain ⟨x1, hx1⟩ : ∃ x, at4 x0 0 4 8 12 = x := ⟨_, rfl⟩
              rw [hx1] at S1 ⊢
              go_wp2_with (first
                | (refine wpList_store_RowTo (w := v1) rfl 48 _ _ rfl gv rfl 48 .u32 _ x1 rfl q1 16 info_16 S1.1 S0.1 (fun z hz => wf_32 (S1.2 z hz)) ?_; intro u1 p1 d1 e1)
                | (refine wpList_load_Row (w := u1) rfl 48 _ rfl gv rfl 48 .u32 _ p1 16 23 Tryd.underlying48 info_16 S1.1 ?_))
              have bb := bb.grown d1 bb.size (fun r e => by have := bf.lt; cases e; omega)
              have bo := bo.grown d1 (by intro e; injection e with e; omega)
              have bf := bf.grown d1 (by intro e; injection e with e; omega)
              refine (round_lit1 x1 u1 S1).mono ?_
              rintro e v2 ⟨rfl, hb⟩
              have bb := bb.trans (hb.mono bb.size)
              have bo := bo.below hb bo.lt
              have bf := bf.below hb bf.lt
              have q2 := p1.below hb p1.lt
              clear hb
              have S2 := S1.at4 1 5 9 13
              obtain ⟨x2, hx2⟩ : ∃ x, at4 x1 1 5 9 13 = x := ⟨_, rfl⟩
              rw [hx2] at S2 ⊢
              go_wp2_with (first
                | (refine wpList_store_RowTo (w := v2) rfl 48 _ _ rfl gv rfl 48 .u32 _ x2 rfl q2 16 info_16 S2.1 S1.1 (fun z hz => wf_32 (S2.2 z hz)) ?_; intro u2 p2 d2 e2)
                | (refine wpList_load_Row (w := u2) rfl 48 _ rfl gv rfl 48 .u32 _ p2 16 23 Tryd.underlying48 info_16 S2.1 ?_))
              have bb := bb.grown d2 bb.size (fun r e => by have := bf.lt; cases e; omega)
              have bo := bo.grown d2 (by intro e; injection e with e; omega)
              have bf := bf.grown d2 (by intro e; injection e with e; omega)
              refine (round_lit2 x2 u2 S2).mono ?_
              rintro e v3 ⟨rfl, hb⟩
              have bb := bb.trans (hb.mono bb.size)
              have bo := bo.below hb bo.lt
              have bf := bf.below hb bf.lt
              have q3 := p2.below hb p2.lt
              clear hb
              have S3 := S2.at4 2 6 10 14
              obtain ⟨x3, hx3⟩ : ∃ x, at4 x2 2 6 10 14 = x := ⟨_, rfl⟩
              rw [hx3] at S3 ⊢
              go_wp2_with (first
                | (refine wpList_store_RowTo (w := v3) rfl 48 _ _ rfl gv rfl 48 .u32 _ x3 rfl q3 16 info_16 S3.1 S2.1 (fun z hz => wf_32 (S3.2 z hz)) ?_; intro u3 p3 d3 e3)
                | (refine wpList_load_Row (w := u3) rfl 48 _ rfl gv rfl 48 .u32 _ p3 16 23 Tryd.underlying48 info_16 S3.1 ?_))
              have bb := bb.grown d3 bb.size (fun r e => by have := bf.lt; cases e; omega)
              have bo := bo.grown d3 (by intro e; injection e with e; omega)
              have bf := bf.grown d3 (by intro e; injection e with e; omega)
              refine (round_lit3 x3 u3 S3).mono ?_
              rintro e v4 ⟨rfl, hb⟩
              have bb := bb.trans (hb.mono bb.size)
              have bo := bo.below hb bo.lt
              have bf := bf.below hb bf.lt
              have q4 := p3.below hb p3.lt
              clear hb
              have S4 := S3.at4 3 7 11 15
              obtain ⟨x4, hx4⟩ : ∃ x, at4 x3 3 7 11 15 = x := ⟨_, rfl⟩
              rw [hx4] at S4 ⊢
              go_wp2_with (first
                | (refine wpList_store_RowTo (w := v4) rfl 48 _ _ rfl gv rfl 48 .u32 _ x4 rfl q4 16 info_16 S4.1 S3.1 (fun z hz => wf_32 (S4.2 z hz)) ?_; intro u4 p4 d4 e4)
                | (refine wpList_load_Row (w := u4) rfl 48 _ rfl gv rfl 48 .u32 _ p4 16 23 Tryd.underlying48 info_16 S4.1 ?_))
              have bb := bb.grown d4 bb.size (fun r e => by have := bf.lt; cases e; omega)
              have bo := bo.grown d4 (by intro e; injection e with e; omega)
              have bf := bf.grown d4 (by intro e; injection e with e; omega)
              refine (round_lit4 x4 u4 S4).mono ?_
              rintro e v5 ⟨rfl, hb⟩
              have bb := bb.trans (hb.mono bb.size)
              have bo := bo.below hb bo.lt
              have bf := bf.below hb bf.lt
              have q5 := p4.below hb p4.lt
              clear hb
              have S5 := S4.at4 0 5 10 15
              obtain ⟨x5, hx5⟩ : ∃ x, at4 x4 0 5 10 15 = x := ⟨_, rfl⟩
              rw [hx5] at S5 ⊢
              go_wp2_with (first
                | (refine wpList_store_RowTo (w := v5) rfl 48 _ _ rfl gv rfl 48 .u32 _ x5 rfl q5 16 info_16 S5.1 S4.1 (fun z hz => wf_32 (S5.2 z hz)) ?_; intro u5 p5 d5 e5)
                | (refine wpList_load_Row (w := u5) rfl 48 _ rfl gv rfl 48 .u32 _ p5 16 23 Tryd.underlying48 info_16 S5.1 ?_))
              have bb := bb.grown d5 bb.size (fun r e => by have := bf.lt; cases e; omega)
              have bo := bo.grown d5 (by intro e; injection e with e; omega)
              have bf := bf.grown d5 (by intro e; injection e with e; omega)
              refine (round_lit5 x5 u5 S5).mono ?_
              rintro e v6 ⟨rfl, hb⟩
              have bb := bb.trans (hb.mono bb.size)
              have bo := bo.below hb bo.lt
              have bf := bf.below hb bf.lt
              have q6 := p5.below hb p5.lt
              clear hb
              have S6 := S5.at4 1 6 11 12
              obtain ⟨x6, hx6⟩ : ∃ x, at4 x5 1 6 11 12 = x := ⟨_, rfl⟩
              rw [hx6] at S6 ⊢
              go_wp2_with (first
                | (refine wpList_store_RowTo (w := v6) rfl 48 _ _ rfl gv rfl 48 .u32 _ x6 rfl q6 16 info_16 S6.1 S5.1 (fun z hz => wf_32 (S6.2 z hz)) ?_; intro u6 p6 d6 e6)
                | (refine wpList_load_Row (w := u6) rfl 48 _ rfl gv rfl 48 .u32 _ p6 16 23 Tryd.underlying48 info_16 S6.1 ?_))
              have bb := bb.grown d6 bb.size (fun r e => by have := bf.lt; cases e; omega)
              have bo := bo.grown d6 (by intro e; injection e with e; omega)
              have bf := bf.grown d6 (by intro e; injection e with e; omega)
              refine (round_lit6 x6 u6 S6).mono ?_
              rintro e v7 ⟨rfl, hb⟩
              have bb := bb.trans (hb.mono bb.size)
              have bo := bo.below hb bo.lt
              have bf := bf.below hb bf.lt
              have q7 := p6.below hb p6.lt
              clear hb
              have S7 := S6.at4 2 7 8 13
              obtain ⟨x7, hx7⟩ : ∃ x, at4 x6 2 7 8 13 = x := ⟨_, rfl⟩
              rw [hx7] at S7 ⊢
              go_wp2_with (first
                | (refine wpList_store_RowTo (w := v7) rfl 48 _ _ rfl gv rfl 48 .u32 _ x7 rfl q7 16 info_16 S7.1 S6.1 (fun z hz => wf_32 (S7.2 z hz)) ?_; intro u7 p7 d7 e7)
                | (refine wpList_load_Row (w := u7) rfl 48 _ rfl gv rfl 48 .u32 _ p7 16 23 Tryd.underlying48 info_16 S7.1 ?_))
              have bb := bb.grown d7 bb.size (fun r e => by have := bf.lt; cases e; omega)
              have bo := bo.grown d7 (by intro e; injection e with e; omega)
              have bf := bf.grown d7 (by intro e; injection e with e; omega)
              refine (round_lit7 x7 u7 S7).mono ?_
              rintro e v8 ⟨rfl, hb⟩
              have bb := bb.trans (hb.mono bb.size)
              have bo := bo.below hb bo.lt
              have bf := bf.below hb bf.lt
              have q8 := p7.below hb p7.lt
              clear hb
              have S8 := S7.at4 3 4 9 14
              obtain ⟨x8, hx8⟩ : ∃ x, at4 x7 3 4 9 14 = x := ⟨_, rfl⟩
              rw [hx8] at S8 ⊢
              have HX := Lib.hid (show twice x0 = x8 by unfold twice diagonals columns; rw [hx1, hx2, hx3, hx4, hx5, hx6, hx7, hx8])
              clear hx1 hx2 hx3 hx4 hx5 hx6 hx7 hx8
              go_wp2_with (refine wpList_store_RowTo (w := v8) rfl 48 _ _ rfl gv rfl 48 .u32 _ x8 rfl q8 16 info_16 S8.1 S7.1 (fun z hz => wf_32 (S8.2 z hz)) ?_; intro u8 p8 d8 e8)
              go_roundw
              case rel => exact ⟨k + 1, by omega, by go_num, bb.grown d8 bb.size (fun r e => by have := bf.lt; cases e; omega), bo.grown d8 (by intro e; injection e with e; omega), bf.grown d8 (by intro e; injection e with e; omega), by rw [HTW.out, HX.out]; exact p8⟩
              case measure => simp [intOf]; omega
            · have hk10 : k = 10 := by omega
              subst hk10
              have SV := HV.out 10
              clear HV
              obtain ⟨V, hV⟩ : ∃ V, turns 10 zs = V := ⟨_, rfl⟩
              have HBS' := HBS.out
              rw [hV] at SV bv
              simp only [hV] at HBS'
              clear hV HBS
              go_wp2_with (refine wpList_alloc_Row (w := wr) rfl 29 rfl .u8 64 zero_64 ?_; intro w5 r5 g5 z5)
              obtain ⟨gb, hgb⟩ : ∃ g, wr.heap.size = g := ⟨_, rfl⟩
              have lb := bv.lt
              have b5 : Below w.heap.size w w5 := bb.grown g5 bb.size (by simp)
              have o5 := bo.grown g5 (by simp)
              have f5 := bf.grown g5 (by simp)
              have v5 := bv.grown g5 (by simp)
              rw [hgb] at r5 lb ⊢
              clear hgb g5 z5 bb bo bf bv hk0
              have u0 : Upto (Cc.block key ctr nonce) 0 (List.replicate 64 0) := ⟨by rw [HBL.out]; simp, fun i hi => by omega⟩
              go_loopw [13] (fun i wr => ∃ k : Nat, k ≤ 64 ∧ i = .int .i64 k ∧ Below w.heap.size w wr ∧ Row wr gr 29 .u8 (List.replicate 64 0) ∧ Row wr gf 48 .u32 zs ∧ Row wr gv 48 .u32 V ∧ ∃ ys, Row wr gb 29 .u8 ys ∧ Upto (Cc.block key ctr nonce) k ys) (fun i _ => 64 - (intOf i).toNat)
              case atStart => exact ⟨0, by omega, rfl, b5, o5, f5, v5, _, r5, u0⟩
              case round =>
                clear b5 o5 f5 v5 r5 u0
                obtain ⟨k, hk, rfl, hbl, qr, fr, vr, ys, br, hu⟩ := hrel
                have hk0 : (0 : Int) ≤ (k : Int) := by omega
                by_cases hlt : k < 64
                · have hlt' : (k : Int) < 64 := by omega
                  have HU := Lib.hid (HBS' k ys hlt hu)
                  have hyl := hu.1
                  rw [HBL.out] at hyl
                  obtain ⟨q, hq⟩ : ∃ q, k / 4 = q := ⟨_, rfl⟩
                  obtain ⟨r, hr⟩ : ∃ r, k % 4 = r := ⟨_, rfl⟩
                  rw [hq, hr] at HU
                  have hq16 : q < 16 := by omega
                  have hr4 : r < 4 := by omega
                  have eq1 : IntKind.i64.wrap ((k : Int).tdiv 4) = (q : Int) := by rw [Int.tdiv_eq_ediv_of_nonneg hk0, IntKind.wrap_i64]; omega
                  have er1 : (k : Int).tmod 4 = (r : Int) := by rw [Int.tmod_eq_emod_of_nonneg hk0]; omega
                  have em1 : IntKind.i64.wrap (8 * (r : Int)) = ((8 * r : Nat) : Int) := by rw [IntKind.wrap_i64]; omega
                  have eu1 : IntKind.u64.wrap ((8 * r : Nat) : Int) = ((8 * r : Nat) : Int) := by rw [IntKind.wrap_u64]; omega
                  have hcf := fr.cell (i := q) (by rw [FL.out]; exact hq16)
                  have hcv := vr.cell (i := q) (by rw [SV.1]; exact hq16)
                  generalize zs.getD q 0 = x at *
                  generalize V.getD q 0 = y at *
                  go_wp2_with fail
                  refine wp_region_held (S := fun W => wr.grownBy W (some gb)) (by kernel_rfl) ?_
                  change wpAnyH _ _ _ _ _ _ _ _ wr.drew
                  have S0 : wr.grownBy wr.drew (some gb) := ⟨rfl, rfl, rfl, Nat.le_refl _, fun _ _ _ => rfl⟩
                  refine Held.take (v := .int .i64 (k : Int)) 0 (some 70) rfl rfl (by kernel_rfl) (by kernel_rfl) (by kernel_rfl) (fun _ _ _ h => h) rfl (Held.y_move rfl rfl) S0 ?_
                  simp only [Act.put, List.setIfInBounds_toArray, List.set_cons_zero, List.set_cons_succ]
                  refine Held.take (v := .int .i64 (k : Int)) 1 (some 71) rfl rfl (by kernel_rfl) (by kernel_rfl) (by kernel_rfl) (fun _ _ _ h => h) rfl (Held.y_move rfl rfl) S0 ?_
                  simp only [Act.put, List.setIfInBounds_toArray, List.set_cons_zero, List.set_cons_succ]
                  refine Held.take (v := .int .i64 (q : Int)) 2 (some 72) rfl rfl (by kernel_rfl) (by kernel_rfl) (by kernel_rfl) (fun _ _ _ h => h) rfl (Held.y_int rfl rfl rfl (fun W => Held.run_quo _ _ (by omega) eq1 W)) S0 ?_
                  simp only [Act.put, List.setIfInBounds_toArray, List.set_cons_zero, List.set_cons_succ]
                  refine Held.take (v := .pointer (some ⟨gv, q, none⟩)) 3 (some 73) rfl rfl (by kernel_rfl) (by kernel_rfl) (by kernel_rfl) (fun _ _ _ h => h) rfl (Held.y_addr rfl rfl rfl (fun W => Held.run_addr_arr 48 23 16 gv q .i64 Tryd.underlying48 (by kernel_rfl) hq16 W)) S0 ?_
                  simp only [Act.put, List.setIfInBounds_toArray, List.set_cons_zero, List.set_cons_succ]
                  refine Held.take (v := .int .u32 y) 4 (some 74) rfl rfl (by kernel_rfl) (by kernel_rfl) (by kernel_rfl) (fun _ _ _ h => h) rfl (Held.y_load rfl rfl (by kernel_rfl) (fun W hW => (World.cell?_of_block (w := wr) (w' := W) (a := ⟨gv, q, none⟩) (hW.block gv vr.lt (by intro e; injection e with e; omega))).trans hcv)) S0 ?_
                  simp only [Act.put, List.setIfInBounds_toArray, List.set_cons_zero, List.set_cons_succ]
                  refine Held.take (v := .int .i64 (k : Int)) 5 (some 75) rfl rfl (by kernel_rfl) (by kernel_rfl) (by kernel_rfl) (fun _ _ _ h => h) rfl (Held.y_move rfl rfl) S0 ?_
                  simp only [Act.put, List.setIfInBounds_toArray, List.set_cons_zero, List.set_cons_succ]
                  refine Held.take (v := .int .i64 (q : Int)) 6 (some 76) rfl rfl (by kernel_rfl) (by kernel_rfl) (by kernel_rfl) (fun _ _ _ h => h) rfl (Held.y_int rfl rfl rfl (fun W => Held.run_quo _ _ (by omega) eq1 W)) S0 ?_
                  simp only [Act.put, List.setIfInBounds_toArray, List.set_cons_zero, List.set_cons_succ]
                  refine Held.take (v := .pointer (some ⟨gf, q, none⟩)) 7 (some 77) rfl rfl (by kernel_rfl) (by kernel_rfl) (by kernel_rfl) (fun _ _ _ h => h) rfl (Held.y_addr rfl rfl rfl (fun W => Held.run_addr_arr 48 23 16 gf q .i64 Tryd.underlying48 (by kernel_rfl) hq16 W)) S0 ?_
                  simp only [Act.put, List.setIfInBounds_toArray, List.set_cons_zero, List.set_cons_succ]
                  refine Held.take (v := .int .u32 x) 8 (some 78) rfl rfl (by kernel_rfl) (by kernel_rfl) (by kernel_rfl) (fun _ _ _ h => h) rfl (Held.y_load rfl rfl (by kernel_rfl) (fun W hW => (World.cell?_of_block (w := wr) (w' := W) (a := ⟨gf, q, none⟩) (hW.block gf fr.lt (by intro e; injection e with e; omega))).trans hcf)) S0 ?_
                  simp only [Act.put, List.setIfInBounds_toArray, List.set_cons_zero, List.set_cons_succ]
                  refine Held.take (v := .int .u32 (addI y x)) 9 (some 79) rfl rfl (by kernel_rfl) (by kernel_rfl) (by kernel_rfl) (fun _ _ _ h => h) rfl (Held.y_int rfl rfl rfl (fun W => Held.run_add _ _ (by rw [IntKind.wrap_u32]; rfl) W)) S0 ?_
                  simp only [Act.put, List.setIfInBounds_toArray, List.set_cons_zero, List.set_cons_succ]
                  refine Held.take (v := .int .i64 (k : Int)) 10 (some 80) rfl rfl (by kernel_rfl) (by kernel_rfl) (by kernel_rfl) (fun _ _ _ h => h) rfl (Held.y_move rfl rfl) S0 ?_
                  simp only [Act.put, List.setIfInBounds_toArray, List.set_cons_zero, List.set_cons_succ]
                  refine Held.take (v := .int .i64 (r : Int)) 11 (some 81) rfl rfl (by kernel_rfl) (by kernel_rfl) (by kernel_rfl) (fun _ _ _ h => h) rfl (Held.y_int rfl rfl rfl (fun W => Held.run_rem _ _ (by omega) er1 W)) S0 ?_
                  simp only [Act.put, List.setIfInBounds_toArray, List.set_cons_zero, List.set_cons_succ]
                  refine Held.take (v := .int .i64 ((8 * r : Nat) : Int)) 12 (some 82) rfl rfl (by kernel_rfl) (by kernel_rfl) (by kernel_rfl) (fun _ _ _ h => h) rfl (Held.y_int rfl rfl rfl (fun W => Held.run_mul _ _ em1 W)) S0 ?_
                  simp only [Act.put, List.setIfInBounds_toArray, List.set_cons_zero, List.set_cons_succ]
                  refine Held.take (v := .int .u64 ((8 * r : Nat) : Int)) 13 (some 83) rfl rfl (by kernel_rfl) (by kernel_rfl) (by kernel_rfl) (fun _ _ _ h => h) rfl (Held.y_convert rfl rfl (by kernel_rfl) Tryd.underlying31 eu1) S0 ?_
                  simp only [Act.put, List.setIfInBounds_toArray, List.set_cons_zero, List.set_cons_succ]
                  refine Held.take (v := .int .u32 (addI y x / 2 ^ (8 * r))) 14 (some 84) rfl rfl (by kernel_rfl) (by kernel_rfl) (by kernel_rfl) (fun _ _ _ h => h) rfl (Held.y_bin rfl rfl rfl (fun W => by simp [eqGuard]) (fun W => Held.run_shr _ _ _ (8 * r) (by simp [IntKind.bits]; omega) rfl W)) S0 ?_
                  simp only [Act.put, List.setIfInBounds_toArray, List.set_cons_zero, List.set_cons_succ]
                  refine Held.take (v := .int .u8 (addI y x / 2 ^ (8 * r) % 256)) 15 (some 85) rfl rfl (by kernel_rfl) (by kernel_rfl) (by kernel_rfl) (fun _ _ _ h => h) rfl (Held.y_convert rfl rfl (by kernel_rfl) Tryd.underlying5 (by rw [IntKind.wrap_u8])) S0 ?_
                  simp only [Act.put, List.setIfInBounds_toArray, List.set_cons_zero, List.set_cons_succ]
                  refine Held.take (v := .pointer (some ⟨gb, k, none⟩)) 16 (some 86) rfl rfl (by kernel_rfl) (by kernel_rfl) (by kernel_rfl) (fun _ _ _ h => h) rfl (Held.y_addr rfl rfl rfl (fun W => Held.run_addr_arr 29 5 64 gb k .i64 Tryd.underlying29 (by kernel_rfl) hlt W)) S0 ?_
                  simp only [Act.put, List.setIfInBounds_toArray, List.set_cons_zero, List.set_cons_succ]
                  refine Held.one 17 (by kernel_rfl) ?_
                  refine Held.op_store_elem 17 none 5 gb k 29 .u8 ys (addI y x / 2 ^ (8 * r) % 256) rfl rfl rfl rfl rfl rfl br (by omega) (by kernel_rfl) (wf_byte ⟨by omega, by omega⟩) ?_
                  intro w8 br8 g8'
                  have g8 : wr.grownBy w8 (some gb) := ⟨g8'.os, g8'.tape, g8'.output, g8'.size, g8'.block⟩
                  clear g8'
                  refine ⟨g8, ?_⟩
                  simp only [Act.put]
                  refine wpAnyH_done (by kernel_rfl) ?_ _
                  go_wp2_with fail
                  go_roundw
                  case rel => exact ⟨k + 1, by omega, by go_num, hbl.grown g8 hbl.size (fun r e => by cases e; omega), qr.grown g8 (by intro e; injection e with e; omega), fr.grown g8 (by intro e; injection e with e; omega), vr.grown g8 (by intro e; injection e with e; omega), _, br8, HU.out⟩
                  case measure => simp [intOf]; omega
                · have hk64 : k = 64 := by omega
                  subst hk64
                  have hz := hu.eq (by rw [HBL.out]; omega)
                  subst hz
                  go_wp2_with (first
                    | (refine wpList_load_Row (w := wr) rfl 29 _ rfl gb rfl 29 .u8 _ br 64 5 Tryd.underlying29 info_64 HBL.out ?_)
                    | (refine wpList_store_RowTo (w := wr) rfl 29 _ _ rfl gr rfl 29 .u8 _ (Cc.block key ctr nonce) rfl qr 64 info_64 HBL.out (by simp) (bs_wf HBW.out) ?_; intro w8 q8 g8 z8))
                  refine bodyPost_ret (results_Row rfl _ _ gr _ _ _ rfl q8 64 5 Tryd.underlying29 info_64 HBL.out) rfl ?_
                  exact ⟨rfl, hbl.grown g8 hbl.size (fun r e => by cases e; omega)⟩
end Go.Proofs.YtejgnjnmlojdpaaDoor.Cha

