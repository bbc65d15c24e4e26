/-
  The document's own Block by its contract.
  The document's own Xor by its contract.
  Numbers in forty bytes, carried and reduced modulo 2^130 - 5: no program here.
-/
import Derived.Test.YtjelacblnjbfgaaGreatDoorB15
import Derived.Test.YtjelacblnjbfgaaGreatDoorB8
import Derived.Test.YtjelacblnjbfgaaGreatDoorB9
set_option linter.unusedVariables false
namespace Go.Proofs.YtjelacblnjbfgaaGreatDoor.Cha
open Go.RowKit Go.Shelf Go.Proofs.YtjelacblnjbfgaaGreatDoor Mem Help Go.Proofs.YtjelacblnjbfgaaGreatDoor.Sum Cc Sha
attribute [local irreducible] wpList wpListIn
theorem start_sigma (key : List Int) (ctr : Int) (nonce : List Int) : Upto (first key ctr nonce) 4 (sigma ++ List.replicate 12 0) := by
  refine ⟨by rw [first_length]; simp [sigma], fun i hi => ?_⟩
  simp only [first, List.getD_eq_getElem?_getD]
  rw [List.getElem?_append_left (by simpa [sigma] using hi), List.getElem?_append_left (by simpa [sigma] using hi)]
theorem block_last {key : List Int} {ctr : Int} {nonce zs : List Int} {i : Nat} (hi : i < 64) (h : Upto (Cc.block key ctr nonce) i zs) : Upto (Cc.block key ctr nonce) (i + 1) (zs.set i (addI ((turns 10 (first key ctr nonce)).getD (i / 4) 0) ((first key ctr nonce).getD (i / 4) 0) / 2 ^ (8 * (i % 4)) % 256)) := by
  have := h.set (by rw [block_length]; exact hi)
  rwa [block_get _ _ _ hi] at this
theorem round_lit0 (s : List Int) (w : World) (hs : Sixteen s) : Calls Tryz.prog 92 #[.agg (arr .u32 s), .int .i64 0, .int .i64 4, .int .i64 8, .int .i64 12] w fun e w' => e = .returned (.agg (arr .u32 (at4 s 0 4 8 12))) ∧ Below w.heap.size w w' := round_any s 0 4 8 12 w hs (by omega) (by omega) (by omega) (by omega)
theorem round_lit1 (s : List Int) (w : World) (hs : Sixteen s) : Calls Tryz.prog 92 #[.agg (arr .u32 s), .int .i64 1, .int .i64 5, .int .i64 9, .int .i64 13] w fun e w' => e = .returned (.agg (arr .u32 (at4 s 1 5 9 13))) ∧ Below w.heap.size w w' := round_any s 1 5 9 13 w hs (by omega) (by omega) (by omega) (by omega)
theorem round_lit2 (s : List Int) (w : World) (hs : Sixteen s) : Calls Tryz.prog 92 #[.agg (arr .u32 s), .int .i64 2, .int .i64 6, .int .i64 10, .int .i64 14] w fun e w' => e = .returned (.agg (arr .u32 (at4 s 2 6 10 14))) ∧ Below w.heap.size w w' := round_any s 2 6 10 14 w hs (by omega) (by omega) (by omega) (by omega)
theorem round_lit3 (s : List Int) (w : World) (hs : Sixteen s) : Calls Tryz.prog 92 #[.agg (arr .u32 s), .int .i64 3, .int .i64 7, .int .i64 11, .int .i64 15] w fun e w' => e = .returned (.agg (arr .u32 (at4 s 3 7 11 15))) ∧ Below w.heap.size w w' := round_any s 3 7 11 15 w hs (by omega) (by omega) (by omega) (by omega)
theorem round_lit4 (s : List Int) (w : World) (hs : Sixteen s) : Calls Tryz.prog 92 #[.agg (arr .u32 s), .int .i64 0, .int .i64 5, .int .i64 10, .int .i64 15] w fun e w' => e = .returned (.agg (arr .u32 (at4 s 0 5 10 15))) ∧ Below w.heap.size w w' := round_any s 0 5 10 15 w hs (by omega) (by omega) (by omega) (by omega)
theorem round_lit5 (s : List Int) (w : World) (hs : Sixteen s) : Calls Tryz.prog 92 #[.agg (arr .u32 s), .int .i64 1, .int .i64 6, .int .i64 11, .int .i64 12] w fun e w' => e = .returned (.agg (arr .u32 (at4 s 1 6 11 12))) ∧ Below w.heap.size w w' := round_any s 1 6 11 12 w hs (by omega) (by omega) (by omega) (by omega)
theorem round_lit6 (s : List Int) (w : World) (hs : Sixteen s) : Calls Tryz.prog 92 #[.agg (arr .u32 s), .int .i64 2, .int .i64 7, .int .i64 8, .int .i64 13] w fun e w' => e = .returned (.agg (arr .u32 (at4 s 2 7 8 13))) ∧ Below w.heap.size w w' := round_any s 2 7 8 13 w hs (by omega) (by omega) (by omega) (by omega)
theorem round_lit7 (s : List Int) (w : World) (hs : Sixteen s) : Calls Tryz.prog 92 #[.agg (arr .u32 s), .int .i64 3, .int .i64 4, .int .i64 9, .int .i64 14] w fun e w' => e = .returned (.agg (arr .u32 (at4 s 3 4 9 14))) ∧ Below w.heap.size w w' := round_any s 3 4 9 14 w hs (by omega) (by omega) (by omega) (by omega)
set_option maxRecDepth 100000 in
set_option maxHeartbeats 4000000 in
theorem rblock_any (key nonce : List Int) (ctr : Int) (w : World) (hk : key.length = 32) (hkb : Bs key) (hn : nonce.length = 12) (hnb : Bs nonce) (hc : R32 ctr) :
    Calls Tryz.prog 63 #[.agg (arr .u8 key), .int .u32 ctr, .agg (arr .u8 nonce)] w fun e w' => e = .returned (.agg (arr .u8 (Cc.block key ctr nonce))) ∧ Below w.heap.size w w' := by
  have zero_16 : (Tryz.prog.info? 125).bind (·.zero) = some (.agg (arr .u32 (List.replicate 16 0))) := by kernel_rfl
  have HK := Lib.hid hk
  have HN := Lib.hid hn
  clear hk hn
  have HBL := Lib.hid (block_length key ctr nonce)
  have HBW := Lib.hid (block_bytes key ctr nonce)
  have HBS := Lib.hid (fun i zs (h1 : i < 64) (h2 : Upto (Cc.block key ctr nonce) i zs) => block_last (key := key) (ctr := ctr) (nonce := nonce) h1 h2)
  have HV := Lib.hid (fun k => (sixteen_first hkb hnb hc).turns k)
  have FK := Lib.hid (fun t (ht : t < 8) => first_key key ctr nonce ht)
  have FC := Lib.hid (first_ctr key ctr nonce)
  have FN := Lib.hid (fun t (ht : t < 3) => first_nonce key ctr nonce ht)
  have FL := Lib.hid (first_length key ctr nonce)
  have FS := Lib.hid (sixteen_first hkb hnb hc)
  have LK := Lib.hid (fun t (ht : 4 * t + 4 ≤ 32) => lew_of key t ht HK.out)
  have LN := Lib.hid (fun t (ht : 4 * t + 4 ≤ 12) => lew_of nonce t ht HN.out)
  obtain ⟨F, hF⟩ : ∃ F, first key ctr nonce = F := ⟨_, rfl⟩
  have u4 := start_sigma key ctr nonce
  rw [hF] at u4 FC FL FS
  simp only [hF] at FK FN HBS HV
  have HF := Lib.hid hF
  clear hF
  have hsw : ∀ z ∈ sigma ++ List.replicate 12 0, (Lit.int .u32 z).wf = true := by decide
  go_enter Tryz.func63, Tryz.ntmps63
  go_wp2_with (first
    | (refine wpList_box_Row (w := w) rfl 22 _ rfl .u8 key rfl (bs_wf hkb) ?_; intro w1 r1 g1 z1)
    | (refine wpList_box_Row (w := w1) rfl 45 _ rfl .u8 nonce rfl (bs_wf hnb) ?_; intro w2 r2 g2 z2)
    | (refine wpList_alloc_Row (w := w2) rfl 88 rfl .u8 64 zero_64 ?_; intro w3 r3 g3 z3)
    | (refine wpList_build_Row (w := w3) rfl 125 _ rfl .u32 (sigma ++ List.replicate 12 0) (by kernel_rfl) ?_)
    | (refine wpList_alloc_Row (w := w3) rfl 125 rfl .u32 16 zero_16 ?_; intro w4 r4 g4 z4)
    | (refine wpList_store_RowTo (w := w4) rfl 125 _ _ rfl w3.heap.size rfl 125 .u32 _ (sigma ++ List.replicate 12 0) rfl r4 16 info_16 rfl (by simp) hsw ?_; intro w5 r5 g5 z5))
  obtain ⟨gn, hgn⟩ : ∃ g, w1.heap.size = g := ⟨_, rfl⟩
  obtain ⟨gr, hgr⟩ : ∃ g, w2.heap.size = g := ⟨_, rfl⟩
  obtain ⟨gf, hgf⟩ : ∃ g, w3.heap.size = g := ⟨_, rfl⟩
  have l1 := r1.lt
  have l2 := r2.lt
  have l3 := r3.lt
  have l5 := r5.lt
  have s4 := g4.size
  have s5 := g5.size
  have b5 : Below w.heap.size w w5 := (((((Below.refl _ w).grown g1 (Nat.le_refl _) (by simp)).grown g2 g1.size (by simp)).grown g3 (by omega) (by simp)).grown g4 (by omega) (by simp)).grown g5 (by omega) (fun r e => by cases e; omega)
  have k5 := (((r1.grown g2 (by simp)).grown g3 (by simp)).grown g4 (by simp)).grown g5 (by intro e; injection e with e; omega)
  have n5 := ((r2.grown g3 (by simp)).grown g4 (by simp)).grown g5 (by intro e; injection e with e; omega)
  have o5 := (r3.grown g4 (by simp)).grown g5 (by intro e; injection e with e; omega)
  rw [hgn] at l1 l2 n5
  rw [hgr] at l2 l3 o5
  rw [hgf] at l3 l5 r5 ⊢
  rw [hgn, hgr]
  clear hgn hgr hgf r1 r2 r3 r4 g1 g2 g3 g4 g5 z1 z2 z3 z4 z5 s4 s5 l5
  obtain ⟨y5, hy5⟩ : ∃ y, sigma ++ List.replicate 12 0 = y := ⟨_, rfl⟩
  rw [hy5] at r5 u4
  clear hy5 hsw
  go_loopw [8] (fun i wr => ∃ k : Nat, k ≤ 8 ∧ i = .int .i64 k ∧ Below w.heap.size w wr ∧ Row wr w.heap.size 22 .u8 key ∧ Row wr gn 45 .u8 nonce ∧ Row wr gr 88 .u8 (List.replicate 64 0) ∧ ∃ zs, Row wr gf 125 .u32 zs ∧ Upto F (4 + k) zs) (fun i _ => 8 - (intOf i).toNat)
  case atStart => exact ⟨0, by omega, rfl, b5, k5, n5, o5, y5, r5, u4⟩
  case round =>
    clear b5 k5 n5 o5 r5 u4
    obtain ⟨k, hk, rfl, hbl, kr, nr, er, zs, sr, hu⟩ := hrel
    have hk0 : (0 : Int) ≤ (k : Int) := by omega
    by_cases hlt : k < 8
    · have hlt' : (k : Int) < 8 := by omega
      have hsl : ∀ W, (Instr.sliceAt 22 (.pointer (some ⟨w.heap.size, 0, none⟩)) (some (.int .i64 (4 * (k : Int)))) (some (.int .i64 (4 * (k : Int) + 4))) none).run Tryz.prog W = .ok (.slice (some ⟨w.heap.size, 4 * k, none⟩) 4 (32 - 4 * k)) W := fun W => by
        have := run_slice_arr_lh (P := Tryz.prog) 22 5 32 w.heap.size (4 * k) (4 * k + 4) W Tryz.underlying22 (by kernel_rfl) (by omega) (by omega) (by omega)
        rw [show 4 * k + 4 - 4 * k = 4 by omega] at this
        exact this
      have ik := kr.mid (l := 4 * k) (m := 4) (by rw [HK.out]; omega)
      go_wp2_with fail
      refine (rword_any w.heap.size (4 * k) 4 (32 - 4 * k) _ _ wr ik rfl).mono ?_
      rintro e w6 ⟨rfl, st⟩
      rw [LK.out k (by omega), ← FK.out k hlt]
      have kr6 := kr.below (st.below _) kr.lt
      have nr6 := nr.below (st.below _) nr.lt
      have er6 := er.below (st.below _) er.lt
      have sr6 := sr.below (st.below _) sr.lt
      have hb6 := hbl.trans (st.below _)
      have HU := Lib.hid (hu.set (by rw [FL.out]; omega))
      have hr32 : R32 (F.getD (4 + k) 0) := FS.out.get (by omega)
      have HZ := Lib.hid hu.1
      clear ik hsl hbl kr nr er sr
      generalize F.getD (4 + k) 0 = x at *
      go_wp2_with (refine wpList_store_elem (w := w6) rfl 57 _ _ rfl gf (4 + k) rfl 125 .u32 _ _ rfl sr6 (by rw [HZ.out, FL.out]; omega) info_u32 (wf_32 hr32) ?_; intro w7 q7 g7 z7)
      go_roundw
      case rel => exact ⟨k + 1, by omega, by go_num, hb6.grown g7 hb6.size (fun r e => by cases e; omega), kr6.grown g7 (by intro e; injection e with e; omega), nr6.grown g7 (by intro e; injection e with e; omega), er6.grown g7 (by intro e; injection e with e; omega), _, q7, HU.out⟩
      case measure => simp [intOf]; omega
    · have hk8 : k = 8 := by omega
      subst hk8
      have HU := Lib.hid (hu.set (by rw [FL.out]; omega))
      have HZ := Lib.hid hu.1
      rw [FC.out] at HU
      go_wp2_with (refine wpList_store_elem (w := wr) rfl 57 _ _ rfl gf 12 rfl 125 .u32 _ _ rfl sr (by rw [HZ.out, FL.out]; omega) info_u32 (wf_32 hc) ?_; intro w6 sr6 g6 z6)
      have hb6 := hbl.grown g6 hbl.size (fun r e => by cases e; omega)
      have nr6 := nr.grown g6 (by intro e; injection e with e; omega)
      have er6 := er.grown g6 (by intro e; injection e with e; omega)
      have hu6 := HU.out
      clear hbl kr nr er sr g6 z6 hu hk0
      go_loopw [9] (fun i wr => ∃ k : Nat, k ≤ 3 ∧ i = .int .i64 k ∧ Below w.heap.size w wr ∧ Row wr gn 45 .u8 nonce ∧ Row wr gr 88 .u8 (List.replicate 64 0) ∧ ∃ zs, Row wr gf 125 .u32 zs ∧ Upto F (13 + k) zs) (fun i _ => 3 - (intOf i).toNat)
      case atStart => exact ⟨0, by omega, rfl, hb6, nr6, er6, _, sr6, hu6⟩
      case round =>
        clear hb6 nr6 er6 sr6 hu6 HU HZ
        obtain ⟨k, hk, rfl, hbl, nr, er, zs, sr, hu⟩ := hrel
        have hk0 : (0 : Int) ≤ (k : Int) := by omega
        by_cases hlt : k < 3
        · have hlt' : (k : Int) < 3 := by omega
          have hsl : ∀ W, (Instr.sliceAt 45 (.pointer (some ⟨gn, 0, none⟩)) (some (.int .i64 (4 * (k : Int)))) (some (.int .i64 (4 * (k : Int) + 4))) none).run Tryz.prog W = .ok (.slice (some ⟨gn, 4 * k, none⟩) 4 (12 - 4 * k)) W := fun W => by
            have := run_slice_arr_lh (P := Tryz.prog) 45 5 12 gn (4 * k) (4 * k + 4) W Tryz.underlying45 (by kernel_rfl) (by omega) (by omega) (by omega)
            rw [show 4 * k + 4 - 4 * k = 4 by omega] at this
            exact this
          have ik := nr.mid (l := 4 * k) (m := 4) (by rw [HN.out]; omega)
          go_wp2_with fail
          refine (rword_any gn (4 * k) 4 (12 - 4 * k) _ _ wr ik rfl).mono ?_
          rintro e w6 ⟨rfl, st⟩
          rw [LN.out k (by omega), ← FN.out k hlt]
          have nr6 := nr.below (st.below _) nr.lt
          have er6 := er.below (st.below _) er.lt
          have sr6 := sr.below (st.below _) sr.lt
          have hb6 := hbl.trans (st.below _)
          have HU := Lib.hid (hu.set (by rw [FL.out]; omega))
          have hr32 : R32 (F.getD (13 + k) 0) := FS.out.get (by omega)
          have HZ := Lib.hid hu.1
          clear ik hsl hbl nr er sr
          generalize F.getD (13 + k) 0 = x at *
          go_wp2_with (refine wpList_store_elem (w := w6) rfl 57 _ _ rfl gf (13 + k) rfl 125 .u32 _ _ rfl sr6 (by rw [HZ.out, FL.out]; omega) info_u32 (wf_32 hr32) ?_; intro w7 q7 g7 z7)
          go_roundw
          case rel => exact ⟨k + 1, by omega, by go_num, hb6.grown g7 hb6.size (fun r e => by cases e; omega), nr6.grown g7 (by intro e; injection e with e; omega), er6.grown g7 (by intro e; injection e with e; omega), _, q7, HU.out⟩
          case measure => simp [intOf]; omega
        · have hk3 : k = 3 := by omega
          subst hk3
          have hz := hu.eq (by rw [FL.out]; omega)
          subst hz
          go_wp2_with (first
            | (refine wpList_load_Row (w := wr) rfl 125 _ rfl gf rfl 125 .u32 _ sr 16 57 Tryz.underlying125 info_16 FL.out ?_)
            | (refine wpList_alloc_Row (w := wr) rfl 125 rfl .u32 16 zero_16 ?_; intro w5 r5 g5 z5)
            | (refine wpList_store_RowTo (w := w5) rfl 125 _ _ rfl wr.heap.size rfl 125 .u32 _ zs rfl r5 16 info_16 FL.out (by simp) (fun z hz => wf_32 (FS.out.2 z hz)) ?_; intro w6 r6 g6 z6))
          obtain ⟨gv, hgv⟩ : ∃ g, wr.heap.size = g := ⟨_, rfl⟩
          have s5 := g5.size
          have ls := sr.lt
          have b6 : Below w.heap.size w w6 := (hbl.grown g5 hbl.size (by simp)).grown g6 (by have := hbl.size; omega) (fun r e => by have := hbl.size; cases e; omega)
          have o6 := (er.grown g5 (by simp)).grown g6 (by intro e; injection e with e; omega)
          have f6 := (sr.grown g5 (by simp)).grown g6 (by intro e; injection e with e; omega)
          rw [hgv] at r6 ls ⊢
          clear hgv r5 g5 g6 z5 z6 nr er sr hbl s5 hu hk0
          go_loopw [11] (fun i wr => ∃ k : Nat, k ≤ 10 ∧ i = .int .i64 k ∧ Below w.heap.size w wr ∧ Row wr gr 88 .u8 (List.replicate 64 0) ∧ Row wr gf 125 .u32 zs ∧ Row wr gv 125 .u32 (turns k zs)) (fun i _ => 10 - (intOf i).toNat)
          case atStart => exact ⟨0, by omega, rfl, b6, o6, f6, r6⟩
          case round =>
            clear b6 o6 f6 r6
            obtain ⟨k, hk, rfl, bb, bo, bf, bv⟩ := hrel
            have hk0 : (0 : Int) ≤ (k : Int) := by omega
            by_cases hlt : k < 10
            · have hlt' : (k : Int) < 10 := by omega
              have HTW := Lib.hid (show turns (k + 1) zs = twice (turns k zs) from rfl)
              have S0 := HV.out k
              obtain ⟨x0, hx0⟩ : ∃ x, turns k zs = x := ⟨_, rfl⟩
              rw [hx0] at bv S0 HTW
              clear hx0
              go_wp2_with (refine wpList_load_Row (w := wr) rfl 125 _ rfl gv rfl 125 .u32 _ bv 16 57 Tryz.underlying125 info_16 S0.1 ?_)
              refine (round_lit0 x0 wr S0).mono ?_
              rintro e v1 ⟨rfl, hb⟩
              have bb := bb.trans (hb.mono bb.size)
              have bo := bo.below hb bo.lt
              have bf := bf.below hb bf.lt
              have q1 := bv.below hb bv.lt
              clear hb
              have S1 := S0.at4 0 4 8 12
              obtain ⟨x1, hx1⟩ : ∃ x, at4 x0 0 4 8 12 = x := ⟨_, rfl⟩
              rw [hx1] at S1 ⊢
              go_wp2_with (first
                | (refine wpList_store_RowTo (w := v1) rfl 125 _ _ rfl gv rfl 125 .u32 _ x1 rfl q1 16 info_16 S1.1 S0.1 (fun z hz => wf_32 (S1.2 z hz)) ?_; intro u1 p1 d1 e1)
                | (refine wpList_load_Row (w := u1) rfl 125 _ rfl gv rfl 125 .u32 _ p1 16 57 Tryz.underlying125 info_16 S1.1 ?_))
              have bb := bb.grown d1 bb.size (fun r e => by have := bf.lt; cases e; omega)
              have bo := bo.grown d1 (by intro e; injection e with e; omega)
              have bf := bf.grown d1 (by intro e; injection e with e; omega)
              refine (round_lit1 x1 u1 S1).mono ?_
              rintro e v2 ⟨rfl, hb⟩
              have bb := bb.trans (hb.mono bb.size)
              have bo := bo.below hb bo.lt
              have bf := bf.below hb bf.lt
              have q2 := p1.below hb p1.lt
              clear hb
              have S2 := S1.at4 1 5 9 13
              obtain ⟨x2, hx2⟩ : ∃ x, at4 x1 1 5 9 13 = x := ⟨_, rfl⟩
              rw [hx2] at S2 ⊢
              go_wp2_with (first
                | (refine wpList_store_RowTo (w := v2) rfl 125 _ _ rfl gv rfl 125 .u32 _ x2 rfl q2 16 info_16 S2.1 S1.1 (fun z hz => wf_32 (S2.2 z hz)) ?_; intro u2 p2 d2 e2)
                | (refine wpList_load_Row (w := u2) rfl 125 _ rfl gv rfl 125 .u32 _ p2 16 57 Tryz.underlying125 info_16 S2.1 ?_))
              have bb := bb.grown d2 bb.size (fun r e => by have := bf.lt; cases e; omega)
              have bo := bo.grown d2 (by intro e; injection e with e; omega)
              have bf := bf.grown d2 (by intro e; injection e with e; omega)
              refine (round_lit2 x2 u2 S2).mono ?_
              rintro e v3 ⟨rfl, hb⟩
              have bb := bb.trans (hb.mono bb.size)
              have bo := bo.below hb bo.lt
              have bf := bf.below hb bf.lt
              have q3 := p2.below hb p2.lt
              clear hb
              have S3 := S2.at4 2 6 10 14
              obtain ⟨x3, hx3⟩ : ∃ x, at4 x2 2 6 10 14 = x := ⟨_, rfl⟩
              rw [hx3] at S3 ⊢
              go_wp2_with (first
                | (refine wpList_store_RowTo (w := v3) rfl 125 _ _ rfl gv rfl 125 .u32 _ x3 rfl q3 16 info_16 S3.1 S2.1 (fun z hz => wf_32 (S3.2 z hz)) ?_; intro u3 p3 d3 e3)
                | (refine wpList_load_Row (w := u3) rfl 125 _ rfl gv rfl 125 .u32 _ p3 16 57 Tryz.underlying125 info_16 S3.1 ?_))
              have bb := bb.grown d3 bb.size (fun r e => by have := bf.lt; cases e; omega)
              have bo := bo.grown d3 (by intro e; injection e with e; omega)
              have bf := bf.grown d3 (by intro e; injection e with e; omega)
              refine (round_lit3 x3 u3 S3).mono ?_
              rintro e v4 ⟨rfl, hb⟩
              have bb := bb.trans (hb.mono bb.size)
              have bo := bo.below hb bo.lt
              have bf := bf.below hb bf.lt
              have q4 := p3.below hb p3.lt
              clear hb
              have S4 := S3.at4 3 7 11 15
              obtain ⟨x4, hx4⟩ : ∃ x, at4 x3 3 7 11 15 = x := ⟨_, rfl⟩
              rw [hx4] at S4 ⊢
              go_wp2_with (first
                | (refine wpList_store_RowTo (w := v4) rfl 125 _ _ rfl gv rfl 125 .u32 _ x4 rfl q4 16 info_16 S4.1 S3.1 (fun z hz => wf_32 (S4.2 z hz)) ?_; intro u4 p4 d4 e4)
                | (refine wpList_load_Row (w := u4) rfl 125 _ rfl gv rfl 125 .u32 _ p4 16 57 Tryz.underlying125 info_16 S4.1 ?_))
              have bb := bb.grown d4 bb.size (fun r e => by have := bf.lt; cases e; omega)
              have bo := bo.grown d4 (by intro e; injection e with e; omega)
              have bf := bf.grown d4 (by intro e; injection e with e; omega)
              refine (round_lit4 x4 u4 S4).mono ?_
              rintro e v5 ⟨rfl, hb⟩
              have bb := bb.trans (hb.mono bb.size)
              have bo := bo.below hb bo.lt
              have bf := bf.below hb bf.lt
              have q5 := p4.below hb p4.lt
              clear hb
              have S5 := S4.at4 0 5 10 15
              obtain ⟨x5, hx5⟩ : ∃ x, at4 x4 0 5 10 15 = x := ⟨_, rfl⟩
              rw [hx5] at S5 ⊢
              go_wp2_with (first
                | (refine wpList_store_RowTo (w := v5) rfl 125 _ _ rfl gv rfl 125 .u32 _ x5 rfl q5 16 info_16 S5.1 S4.1 (fun z hz => wf_32 (S5.2 z hz)) ?_; intro u5 p5 d5 e5)
                | (refine wpList_load_Row (w := u5) rfl 125 _ rfl gv rfl 125 .u32 _ p5 16 57 Tryz.underlying125 info_16 S5.1 ?_))
              have bb := bb.grown d5 bb.size (fun r e => by have := bf.lt; cases e; omega)
              have bo := bo.grown d5 (by intro e; injection e with e; omega)
              have bf := bf.grown d5 (by intro e; injection e with e; omega)
              refine (round_lit5 x5 u5 S5).mono ?_
              rintro e v6 ⟨rfl, hb⟩
              have bb := bb.trans (hb.mono bb.size)
              have bo := bo.below hb bo.lt
              have bf := bf.below hb bf.lt
              have q6 := p5.below hb p5.lt
              clear hb
              have S6 := S5.at4 1 6 11 12
              obtain ⟨x6, hx6⟩ : ∃ x, at4 x5 1 6 11 12 = x := ⟨_, rfl⟩
              rw [hx6] at S6 ⊢
              go_wp2_with (first
                | (refine wpList_store_RowTo (w := v6) rfl 125 _ _ rfl gv rfl 125 .u32 _ x6 rfl q6 16 info_16 S6.1 S5.1 (fun z hz => wf_32 (S6.2 z hz)) ?_; intro u6 p6 d6 e6)
                | (refine wpList_load_Row (w := u6) rfl 125 _ rfl gv rfl 125 .u32 _ p6 16 57 Tryz.underlying125 info_16 S6.1 ?_))
              have bb := bb.grown d6 bb.size (fun r e => by have := bf.lt; cases e; omega)
              have bo := bo.grown d6 (by intro e; injection e with e; omega)
              have bf := bf.grown d6 (by intro e; injection e with e; omega)
              refine (round_lit6 x6 u6 S6).mono ?_
              rintro e v7 ⟨rfl, hb⟩
              have bb := bb.trans (hb.mono bb.size)
              have bo := bo.below hb bo.lt
              have bf := bf.below hb bf.lt
              have q7 := p6.below hb p6.lt
              clear hb
              have S7 := S6.at4 2 7 8 13
              obtain ⟨x7, hx7⟩ : ∃ x, at4 x6 2 7 8 13 = x := ⟨_, rfl⟩
              rw [hx7] at S7 ⊢
              go_wp2_with (first
                | (refine wpList_store_RowTo (w := v7) rfl 125 _ _ rfl gv rfl 125 .u32 _ x7 rfl q7 16 info_16 S7.1 S6.1 (fun z hz => wf_32 (S7.2 z hz)) ?_; intro u7 p7 d7 e7)
                | (refine wpList_load_Row (w := u7) rfl 125 _ rfl gv rfl 125 .u32 _ p7 16 57 Tryz.underlying125 info_16 S7.1 ?_))
              have bb := bb.grown d7 bb.size (fun r e => by have := bf.lt; cases e; omega)
              have bo := bo.grown d7 (by intro e; injection e with e; omega)
              have bf := bf.grown d7 (by intro e; injection e with e; omega)
              refine (round_lit7 x7 u7 S7).mono ?_
              rintro e v8 ⟨rfl, hb⟩
              have bb := bb.trans (hb.mono bb.size)
              have bo := bo.below hb bo.lt
              have bf := bf.below hb bf.lt
              have q8 := p7.below hb p7.lt
              clear hb
              have S8 := S7.at4 3 4 9 14
              obtain ⟨x8, hx8⟩ : ∃ x, at4 x7 3 4 9 14 = x := ⟨_, rfl⟩
              rw [hx8] at S8 ⊢
              have HX := Lib.hid (show twice x0 = x8 by unfold twice diagonals columns; rw [hx1, hx2, hx3, hx4, hx5, hx6, hx7, hx8])
              clear hx1 hx2 hx3 hx4 hx5 hx6 hx7 hx8
              go_wp2_with (refine wpList_store_RowTo (w := v8) rfl 125 _ _ rfl gv rfl 125 .u32 _ x8 rfl q8 16 info_16 S8.1 S7.1 (fun z hz => wf_32 (S8.2 z hz)) ?_; intro u8 p8 d8 e8)
              go_roundw
              case rel => exact ⟨k + 1, by omega, by go_num, bb.grown d8 bb.size (fun r e => by have := bf.lt; cases e; omega), bo.grown d8 (by intro e; injection e with e; omega), bf.grown d8 (by intro e; injection e with e; omega), by rw [HTW.out, HX.out]; exact p8⟩
              case measure => simp [intOf]; omega
            · have hk10 : k = 10 := by omega
              subst hk10
              have SV := HV.out 10
              clear HV
              obtain ⟨V, hV⟩ : ∃ V, turns 10 zs = V := ⟨_, rfl⟩
              have HBS' := HBS.out
              rw [hV] at SV bv
              simp only [hV] at HBS'
              clear hV HBS
              go_wp2_with (refine wpList_alloc_Row (w := wr) rfl 88 rfl .u8 64 zero_64 ?_; intro w5 r5 g5 z5)
              obtain ⟨gb, hgb⟩ : ∃ g, wr.heap.size = g := ⟨_, rfl⟩
              have lb := bv.lt
              have b5 : Below w.heap.size w w5 := bb.grown g5 bb.size (by simp)
              have o5 := bo.grown g5 (by simp)
              have f5 := bf.grown g5 (by simp)
              have v5 := bv.grown g5 (by simp)
              rw [hgb] at r5 lb ⊢
              clear hgb g5 z5 bb bo bf bv hk0
              have u0 : Upto (Cc.block key ctr nonce) 0 (List.replicate 64 0) := ⟨by rw [HBL.out]; simp, fun i hi => by omega⟩
              go_loopw [13] (fun i wr => ∃ k : Nat, k ≤ 64 ∧ i = .int .i64 k ∧ Below w.heap.size w wr ∧ Row wr gr 88 .u8 (List.replicate 64 0) ∧ Row wr gf 125 .u32 zs ∧ Row wr gv 125 .u32 V ∧ ∃ ys, Row wr gb 88 .u8 ys ∧ Upto (Cc.block key ctr nonce) k ys) (fun i _ => 64 - (intOf i).toNat)
              case atStart => exact ⟨0, by omega, rfl, b5, o5, f5, v5, _, r5, u0⟩
              case round =>
                clear b5 o5 f5 v5 r5 u0
                obtain ⟨k, hk, rfl, hbl, qr, fr, vr, ys, br, hu⟩ := hrel
                have hk0 : (0 : Int) ≤ (k : Int) := by omega
                by_cases hlt : k < 64
                · have hlt' : (k : Int) < 64 := by omega
                  have HU := Lib.hid (HBS' k ys hlt hu)
                  have hyl := hu.1
                  rw [HBL.out] at hyl
                  obtain ⟨q, hq⟩ : ∃ q, k / 4 = q := ⟨_, rfl⟩
                  obtain ⟨r, hr⟩ : ∃ r, k % 4 = r := ⟨_, rfl⟩
                  rw [hq, hr] at HU
                  have hq16 : q < 16 := by omega
                  have hr4 : r < 4 := by omega
                  have eq1 : IntKind.i64.wrap ((k : Int).tdiv 4) = (q : Int) := by rw [Int.tdiv_eq_ediv_of_nonneg hk0, IntKind.wrap_i64]; omega
                  have er1 : (k : Int).tmod 4 = (r : Int) := by rw [Int.tmod_eq_emod_of_nonneg hk0]; omega
                  have em1 : IntKind.i64.wrap (8 * (r : Int)) = ((8 * r : Nat) : Int) := by rw [IntKind.wrap_i64]; omega
                  have eu1 : IntKind.u64.wrap ((8 * r : Nat) : Int) = ((8 * r : Nat) : Int) := by rw [IntKind.wrap_u64]; omega
                  have hcf := fr.cell (i := q) (by rw [FL.out]; exact hq16)
                  have hcv := vr.cell (i := q) (by rw [SV.1]; exact hq16)
                  generalize zs.getD q 0 = x at *
                  generalize V.getD q 0 = y at *
                  go_wp2_with fail
                  refine wp_region_held (S := fun W => wr.grownBy W (some gb)) (by kernel_rfl) ?_
                  change wpAnyH _ _ _ _ _ _ _ _ wr.drew
                  have S0 : wr.grownBy wr.drew (some gb) := ⟨rfl, rfl, rfl, Nat.le_refl _, fun _ _ _ => rfl⟩
                  refine Held.tk (v := .int .i64 (k : Int)) 0 (some 70) rfl (Held.y_move rfl rfl) S0 ?_
                  simp only [Act.put, Z1, Z2, Z3]
                  refine Held.tk (v := .int .i64 (k : Int)) 1 (some 71) rfl (Held.y_move rfl rfl) S0 ?_
                  simp only [Act.put, Z1, Z2, Z3]
                  refine Held.tk (v := .int .i64 (q : Int)) 2 (some 72) rfl (Held.y_int rfl rfl rfl (fun W => Held.run_quo _ _ (by omega) eq1 W)) S0 ?_
                  simp only [Act.put, Z1, Z2, Z3]
                  refine Held.tk (v := .pointer (some ⟨gv, q, none⟩)) 3 (some 73) rfl (Held.y_addr rfl rfl rfl (fun W => Held.run_addr_arr 125 57 16 gv q .i64 Tryz.underlying125 (by kernel_rfl) hq16 W)) S0 ?_
                  simp only [Act.put, Z1, Z2, Z3]
                  refine Held.tk (v := .int .u32 y) 4 (some 74) rfl (Held.y_load rfl rfl (by kernel_rfl) (fun W hW => (World.cell?_of_block (w := wr) (w' := W) (a := ⟨gv, q, none⟩) (hW.block gv vr.lt (by intro e; injection e with e; omega))).trans hcv)) S0 ?_
                  simp only [Act.put, Z1, Z2, Z3]
                  refine Held.tk (v := .int .i64 (k : Int)) 5 (some 75) rfl (Held.y_move rfl rfl) S0 ?_
                  simp only [Act.put, Z1, Z2, Z3]
                  refine Held.tk (v := .int .i64 (q : Int)) 6 (some 76) rfl (Held.y_int rfl rfl rfl (fun W => Held.run_quo _ _ (by omega) eq1 W)) S0 ?_
                  simp only [Act.put, Z1, Z2, Z3]
                  refine Held.tk (v := .pointer (some ⟨gf, q, none⟩)) 7 (some 77) rfl (Held.y_addr rfl rfl rfl (fun W => Held.run_addr_arr 125 57 16 gf q .i64 Tryz.underlying125 (by kernel_rfl) hq16 W)) S0 ?_
                  simp only [Act.put, Z1, Z2, Z3]
                  refine Held.tk (v := .int .u32 x) 8 (some 78) rfl (Held.y_load rfl rfl (by kernel_rfl) (fun W hW => (World.cell?_of_block (w := wr) (w' := W) (a := ⟨gf, q, none⟩) (hW.block gf fr.lt (by intro e; injection e with e; omega))).trans hcf)) S0 ?_
                  simp only [Act.put, Z1, Z2, Z3]
                  refine Held.tk (v := .int .u32 (addI y x)) 9 (some 79) rfl (Held.y_int rfl rfl rfl (fun W => Held.run_add _ _ (by rw [IntKind.wrap_u32]; rfl) W)) S0 ?_
                  simp only [Act.put, Z1, Z2, Z3]
                  refine Held.tk (v := .int .i64 (k : Int)) 10 (some 80) rfl (Held.y_move rfl rfl) S0 ?_
                  simp only [Act.put, Z1, Z2, Z3]
                  refine Held.tk (v := .int .i64 (r : Int)) 11 (some 81) rfl (Held.y_int rfl rfl rfl (fun W => Held.run_rem _ _ (by omega) er1 W)) S0 ?_
                  simp only [Act.put, Z1, Z2, Z3]
                  refine Held.tk (v := .int .i64 ((8 * r : Nat) : Int)) 12 (some 82) rfl (Held.y_int rfl rfl rfl (fun W => Held.run_mul _ _ em1 W)) S0 ?_
                  simp only [Act.put, Z1, Z2, Z3]
                  refine Held.tk (v := .int .u64 ((8 * r : Nat) : Int)) 13 (some 83) rfl (Held.y_convert rfl rfl (by kernel_rfl) Tryz.underlying39 eu1) S0 ?_
                  simp only [Act.put, Z1, Z2, Z3]
                  refine Held.tk (v := .int .u32 (addI y x / 2 ^ (8 * r))) 14 (some 84) rfl (Held.y_bin rfl rfl rfl (fun W => by simp [eqGuard]) (fun W => Held.run_shr _ _ _ (8 * r) (by simp [IntKind.bits]; omega) rfl W)) S0 ?_
                  simp only [Act.put, Z1, Z2, Z3]
                  refine Held.tk (v := .int .u8 (addI y x / 2 ^ (8 * r) % 256)) 15 (some 85) rfl (Held.y_convert rfl rfl (by kernel_rfl) Tryz.underlying5 (by rw [IntKind.wrap_u8])) S0 ?_
                  simp only [Act.put, Z1, Z2, Z3]
                  refine Held.tk (v := .pointer (some ⟨gb, k, none⟩)) 16 (some 86) rfl (Held.y_addr rfl rfl rfl (fun W => Held.run_addr_arr 88 5 64 gb k .i64 Tryz.underlying88 (by kernel_rfl) hlt W)) S0 ?_
                  simp only [Act.put, Z1, Z2, Z3]
                  refine Held.one 17 (by kernel_rfl) ?_
                  refine Held.op_store_elem 17 none 5 gb k 88 .u8 ys (addI y x / 2 ^ (8 * r) % 256) rfl rfl rfl rfl rfl rfl br (by omega) (by kernel_rfl) (wf_byte ⟨by omega, by omega⟩) ?_
                  intro w8 br8 g8'
                  have g8 : wr.grownBy w8 (some gb) := ⟨g8'.os, g8'.tape, g8'.output, g8'.size, g8'.block⟩
                  clear g8'
                  refine ⟨g8, ?_⟩
                  simp only [Act.put]
                  refine wpAnyH_done (by kernel_rfl) ?_ _
                  go_wp2_with fail
                  go_roundw
                  case rel => exact ⟨k + 1, by omega, by go_num, hbl.grown g8 hbl.size (fun r e => by cases e; omega), qr.grown g8 (by intro e; injection e with e; omega), fr.grown g8 (by intro e; injection e with e; omega), vr.grown g8 (by intro e; injection e with e; omega), _, br8, HU.out⟩
                  case measure => simp [intOf]; omega
                · have hk64 : k = 64 := by omega
                  subst hk64
                  have hz := hu.eq (by rw [HBL.out]; omega)
                  subst hz
                  go_wp2_with (first
                    | (refine wpList_load_Row (w := wr) rfl 88 _ rfl gb rfl 88 .u8 _ br 64 5 Tryz.underlying88 info_64 HBL.out ?_)
                    | (refine wpList_store_RowTo (w := wr) rfl 88 _ _ rfl gr rfl 88 .u8 _ (Cc.block key ctr nonce) rfl qr 64 info_64 HBL.out (by simp) (bs_wf HBW.out) ?_; intro w8 q8 g8 z8))
                  refine bodyPost_ret (results_Row rfl _ _ gr _ _ _ rfl q8 64 5 Tryz.underlying88 info_64 HBL.out) rfl ?_
                  exact ⟨rfl, hbl.grown g8 hbl.size (fun r e => by cases e; omega)⟩
end Go.Proofs.YtjelacblnjbfgaaGreatDoor.Cha
namespace Go.Proofs.YtjelacblnjbfgaaGreatDoor.Cha
open Go.RowKit Go.Shelf Go.Proofs.YtjelacblnjbfgaaGreatDoor Mem Help Go.Proofs.YtjelacblnjbfgaaGreatDoor.Sum Cc Sha
attribute [local irreducible] wpList wpListIn
theorem bs_of_ints {w : World} {B : Nat} {A : Option Addr} {n : Nat} {zs : List Int} (h : Ints w .u8 B A n zs) : Bs zs := fun z hz => wf_u8 (h.2.1 z hz)
theorem rinfo_k32 : (Tryz.prog.info? 22).map (·.size) = some 32 := by kernel_rfl
theorem rinfo_n12 : (Tryz.prog.info? 45).map (·.size) = some 12 := by kernel_rfl
set_option maxRecDepth 100000 in
set_option maxHeartbeats 4000000 in
theorem rxor_any (key nonce : List Int) (ctr : Int) (B : Nat) (A : Option Addr) (m c : Nat) (bs : List Int) (w : World) (hi : Ints w .u8 B A m bs) (hB : B ≤ w.heap.size) (hm : m ≤ 1099511627776)
    (hk : key.length = 32) (hkb : Bs key) (hn : nonce.length = 12) (hnb : Bs nonce) (hc : R32 ctr) :
    Calls Tryz.prog 42 #[.agg (arr .u8 key), .agg (arr .u8 nonce), .int .u32 ctr, .slice A m c] w fun e w' => ∃ A' c', e = .returned (.slice A' m c') ∧ m ≤ c' ∧ Mem.Own w' w.heap.size 5 .u8 (.slice A' m c') (xors key nonce ctr bs) ∧ Below w.heap.size w w' := by
  have HK := Lib.hid hk
  have HN := Lib.hid hn
  have HB := Lib.hid hi.1
  have HX := Lib.hid (fun q (hq : q < m) => xors_snoc key nonce ctr bs (k := q) (by rw [hi.1]; exact hq))
  have HXL := Lib.hid (fun q (hq : q ≤ m) => show (xors key nonce ctr (bs.take q)).length = q by rw [xors_length, List.length_take, hi.1]; omega)
  have HSB := Lib.hid (fun i => stream_bound key ctr nonce i)
  have HBS := Lib.hid (bs_of_ints hi)
  have hat : ∀ i, i < m → ∃ b off, A = some ⟨b, off, none⟩ ∧ b < B ∧ w.cell? ⟨b, off + i, none⟩ = some (.int .u8 (bs.getD i 0)) := fun i h => hi.at_ h
  clear hk hn hi
  go_enter Tryz.func42, Tryz.ntmps42
  go_wp2_with (first
    | (refine wpList_box_Row (w := w) rfl 22 _ rfl .u8 key rfl (bs_wf hkb) ?_; intro w1 r1 g1 z1)
    | (refine wpList_box_Row (w := w1) rfl 45 _ rfl .u8 nonce rfl (bs_wf hnb) ?_; intro w2 r2 g2 z2)
    | (refine wpList_alloc_Row (w := w2) rfl 88 rfl .u8 64 zero_64 ?_; intro w3 r3 g3 z3))
  obtain ⟨nn, hnn⟩ : ∃ x, w1.heap.size = x := ⟨_, rfl⟩
  obtain ⟨kb, hkb'⟩ : ∃ x, w2.heap.size = x := ⟨_, rfl⟩
  have l1 := r1.lt
  have l2 := r2.lt
  have b3 : Below w.heap.size w w3 := (((Below.refl _ w).grown g1 (Nat.le_refl _) (by simp)).grown g2 g1.size (by simp)).grown g3 (by omega) (by simp)
  have k3 := (r1.grown g2 (by simp)).grown g3 (by simp)
  have n3 := r2.grown g3 (by simp)
  rw [hnn] at l1 l2 n3 ⊢
  rw [hkb'] at l2 r3 ⊢
  clear hnn hkb' r1 r2 g1 g2 g3 z1 z2 z3
  have HKB := Lib.hid hkb
  go_loopw [9, 11] (fun v n wr => ∃ (i : Nat) (A1 : Option Addr) (c1 : Nat) (Z : List Int), i ≤ m ∧ v = .slice A1 i c1 ∧ n = .int .i64 i ∧ i ≤ c1 ∧ Mem.Own wr (kb + 1) 5 .u8 (.slice A1 i c1) (xors key nonce ctr (bs.take i)) ∧ Row wr w.heap.size 22 .u8 key ∧ Row wr nn 45 .u8 nonce ∧ Row wr kb 88 .u8 Z ∧
    (Z.length = 64 ∧ (i % 64 ≠ 0 → Z = Cc.block key (addI ctr ((i / 64 : Nat) : Int)) nonce)) ∧ Below w.heap.size w wr) (fun _ n _ => m - (intOf n).toNat)
  case atStart => exact ⟨0, none, 0, List.replicate 64 0, by omega, rfl, rfl, by omega, by simpa [xors] using Own.nil w3 (kb + 1) 5 .u8, k3, n3, r3, ⟨by simp, fun h => absurd rfl h⟩, b3⟩
  case round =>
    clear k3 n3 r3 b3
    obtain ⟨i, A1, c1, Z, him, rfl, rfl, hc1, hown, kr, nr, hZ, hzz, hbl⟩ := hrel
    have hi0 : (0 : Int) ≤ (i : Int) := by omega
    by_cases hlt : i < m
    · have hlt' : (i : Int) < (m : Int) := by omega
      obtain ⟨b, off, rfl, hb, hcw⟩ := hat i hlt
      have HXq := Lib.hid (HX.out i hlt)
      have HQL := Lib.hid (HXL.out i (by omega))
      have HQL1 := Lib.hid (HXL.out (i + 1) (by omega))
      have hz := HSB.out i
      have hy := HBS.out.at_ i
      have hcy0 := (hbl.cell (p := ⟨b, off + i, none⟩) (by show b < _; omega)).trans hcw
      obtain ⟨r, hr⟩ : ∃ r, i % 64 = r := ⟨_, rfl⟩
      have hr64 : r < 64 := by omega
      have er1 : (i : Int).tmod 64 = (r : Int) := by rw [Int.tmod_eq_emod_of_nonneg hi0]; omega
      have HST := Lib.hid (show streamAt key ctr nonce i = (Cc.block key (addI ctr ((i / 64 : Nat) : Int)) nonce).getD r 0 by rw [← hr]; rfl)
      have lkb0 : kb + 1 ≤ wr.heap.size := hZ.lt
      clear hcw
      by_cases hr0 : r = 0
      · have hq0 : (i : Int) % 64 = 0 := by omega
        have hd0 : IntKind.u32.wrap ((i : Int) / 64) = (i : Int) / 64 % 4294967296 := by rw [IntKind.wrap_u32]
        go_wp2_with (first
          | (refine wpList_load_Row (w := wr) rfl 22 _ rfl w.heap.size rfl 22 .u8 _ kr 32 5 Tryz.underlying22 rinfo_k32 HK.out ?_)
          | (refine wpList_load_Row (w := wr) rfl 45 _ rfl nn rfl 45 .u8 _ nr 12 5 Tryz.underlying45 rinfo_n12 HN.out ?_))
        have ec : (ctr + (i : Int) / 64) % 4294967296 = addI ctr ((i / 64 : Nat) : Int) := by unfold addI; omega
        rw [ec]
        refine (rblock_any key nonce (addI ctr ((i / 64 : Nat) : Int)) wr HK.out hkb HN.out hnb (r32_add _ _)).mono ?_
        rintro e w4 ⟨rfl, hb4⟩
        have kr := kr.below hb4 kr.lt
        have nr := nr.below hb4 nr.lt
        have hZ := hZ.below hb4 hZ.lt
        have hown := hown.below hb4
        have hcy1 := (hb4.cell (World.block_lt_of_cell? _ _ hcy0)).trans hcy0
        have hbl := hbl.trans (hb4.mono hbl.size)
        have lkb1 : kb + 1 ≤ w4.heap.size := Nat.le_trans lkb0 hb4.size
        clear hb4 hcy0 lkb0 ec hd0 hq0
        have HZN := Lib.hid (show (Cc.block key (addI ctr ((i / 64 : Nat) : Int)) nonce).length = 64 ∧ ((i + 1) % 64 ≠ 0 → Cc.block key (addI ctr ((i / 64 : Nat) : Int)) nonce = Cc.block key (addI ctr (((i + 1) / 64 : Nat) : Int)) nonce) from ⟨block_length _ _ _, fun h => by rw [show (i + 1) / 64 = i / 64 by omega]⟩)
        have hbw := bs_wf (block_bytes key (addI ctr ((i / 64 : Nat) : Int)) nonce)
        have HZ := Lib.hid (HST.out.symm)
        obtain ⟨Z2, hZ2⟩ : ∃ Z2, Cc.block key (addI ctr ((i / 64 : Nat) : Int)) nonce = Z2 := ⟨_, rfl⟩
        rw [hZ2] at HZN hbw HZ ⊢
        have HZL := Lib.hid HZN.out.1
        clear hZ2 HST
        generalize bs.getD i 0 = y at *
        generalize streamAt key ctr nonce i = z at *
        go_wp2_with (refine wpList_store_RowTo (w := w4) rfl 88 _ _ rfl kb rfl 88 .u8 _ Z2 rfl hZ 64 info_64 HZL.out hzz.1 hbw ?_; intro w5 r5 g5 z5)
        have kr := kr.grown g5 (by intro e; injection e with e; omega)
        have nr := nr.grown g5 (by intro e; injection e with e; omega)
        have hown := hown.kept g5 (.inr (fun e => by have := (hown.2.lt kb e).1; omega))
        have hcy := (World.cell?_of_block (w := w4) (w' := w5) (a := ⟨b, off + i, none⟩) (g5.block b (World.block_lt_of_cell? _ _ hcy1) (by intro e; injection e with e; omega))).trans hcy1
        have hbl := hbl.grown g5 hbl.size (fun r e => by cases e; omega)
        have lkb : kb + 1 ≤ w5.heap.size := Nat.le_trans lkb1 g5.size
        clear hZ hzz hcy1 lkb1 g5 z5
        have hZ := r5
        clear r5
        obtain ⟨Z, rfl⟩ : ∃ Z, Z = Z2 := ⟨_, rfl⟩
        refine wp_region_held (S := fun X => X.cell? ⟨b, off + i, none⟩ = some (.int .u8 y) ∧ Row X kb 88 .u8 Z) (by kernel_rfl) ?_
        change wpAnyH _ _ _ _ _ _ _ _ w5.drew
        have c0_0 : w5.drew.cell? ⟨b, off + i, none⟩ = some (.int .u8 y) ∧ Row w5.drew kb 88 .u8 Z := ⟨hcy, hZ⟩
        refine Held.tk (v := .slice A1 i c1) 0 (some 29) rfl (Held.y_move rfl rfl) c0_0 ?_
        simp only [Act.put, Z1, Z2, Z3]
        refine Held.tk (v := .slice (some ⟨b, off, none⟩) m c) 1 (some 30) rfl (Held.y_move rfl rfl) c0_0 ?_
        simp only [Act.put, Z1, Z2, Z3]
        refine Held.tk (v := .int .i64 (i : Int)) 2 (some 31) rfl (Held.y_move rfl rfl) c0_0 ?_
        simp only [Act.put, Z1, Z2, Z3]
        refine Held.tk (v := .pointer (some ⟨b, off + i, none⟩)) 3 (some 32) rfl (Held.y_addr rfl rfl rfl (fun X => Held.run_addr_slice 27 5 b off m c i .i64 Tryz.underlying27 (by kernel_rfl) hlt X)) c0_0 ?_
        simp only [Act.put, Z1, Z2, Z3]
        refine Held.tk (v := .int .u8 y) 4 (some 33) rfl (Held.y_load rfl rfl (by kernel_rfl) (fun X h => h.1)) c0_0 ?_
        simp only [Act.put, Z1, Z2, Z3]
        refine Held.tk (v := .int .i64 (i : Int)) 5 (some 34) rfl (Held.y_move rfl rfl) c0_0 ?_
        simp only [Act.put, Z1, Z2, Z3]
        refine Held.tk (v := .int .i64 (r : Int)) 6 (some 35) rfl (Held.y_int rfl rfl rfl (fun X => Held.run_rem _ _ (by omega) er1 X)) c0_0 ?_
        simp only [Act.put, Z1, Z2, Z3]
        refine Held.tk (v := .pointer (some ⟨kb, r, none⟩)) 7 (some 36) rfl (Held.y_addr rfl rfl rfl (fun X => Held.run_addr_arr 88 5 64 kb r .i64 Tryz.underlying88 (by kernel_rfl) hr64 X)) c0_0 ?_
        simp only [Act.put, Z1, Z2, Z3]
        refine Held.tk (v := .int .u8 z) 8 (some 37) rfl (Held.y_load rfl rfl (by kernel_rfl) (fun X h => by rw [h.2.cell (by rw [HZL.out]; exact hr64), HZ.out])) c0_0 ?_
        simp only [Act.put, Z1, Z2, Z3]
        refine Held.tk (v := .int .u8 (bits .xor .u8 y z)) 9 (some 38) rfl (Held.y_int rfl rfl rfl (fun X => Held.run_bitop (.inl rfl) _ _ rfl X)) c0_0 ?_
        simp only [Act.put, Z1, Z2, Z3]
        refine Held.one 10 (by kernel_rfl) ?_
        refine Held.op_build_Row 10 (some 39) 27 5 1 .u8 1 [bits .xor .u8 y z] rfl rfl rfl rfl Tryz.underlying27 info_u8 (by simp [Act.eval]) rfl (by omega) (by omega) (by simpa using wf_byte (byte_xor_bound hy hz)) ?_
        intro p8 w8 r8 b8 h8
        have c0_1 : w8.cell? ⟨b, off + i, none⟩ = some (.int .u8 y) ∧ Row w8 kb 88 .u8 Z := ⟨(b8.cell (World.block_lt_of_cell? _ _ c0_0.1)).trans c0_0.1, Row.below c0_0.2 b8 c0_0.2.lt⟩
        have o8 := Mem.Own.below (w := w5.drew) (hown.drewN 1) b8
        have i8 := r8.ints (n := 1) (by simp)
        refine ⟨c0_1, ?_⟩
        simp only [Act.put, Z1, Z2, Z3]
        refine Held.one 11 (by kernel_rfl) ?_
        refine Held.op_append_ints 11 (some 40) 27 rfl rfl rfl rfl (kb + 1) 5 .u8 1 Tryz.underlying27 info_u8 _ (xors key nonce ctr (bs.take i)) rfl o8 w8.heap.size (some ⟨p8, 0, none⟩) 1 1 [bits .xor .u8 y z] rfl i8 (by rw [HQL.out]; omega) (by omega) (Nat.le_trans lkb b8.size) ?_
        intro A9 n9 c9 w9 o9 g9 h91 h92 H9 i9
        have ne9 : ∀ p, p ≤ kb → some p ≠ (Value.slice A1 i c1).ownBlock := fun p hp e => by have := (o8.2.lt p e.symm).1; omega
        have r9 := c0_1.2.grown g9 (ne9 kb (Nat.le_refl _))
        have c0_2 : w9.cell? ⟨b, off + i, none⟩ = some (.int .u8 y) ∧ Row w9 kb 88 .u8 Z := ⟨(World.cell?_of_block (w := w8) (w' := w9) (a := ⟨b, off + i, none⟩) (g9.block b (World.block_lt_of_cell? _ _ c0_1.1) (ne9 b (by omega)))).trans c0_1.1, r9⟩
        refine ⟨c0_2, ?_⟩
        simp only [Act.put, Z1, Z2, Z3]
        refine Held.tk (v := .slice A9 n9 c9) 12 (some 9) rfl (Held.y_assign rfl rfl) c0_2 ?_
        simp only [Act.put, Z1, Z2, Z3]
        refine wpAnyH_done (by kernel_rfl) ?_ _
        rw [← HXq.out] at o9 H9
        have hn9 : n9 = i + 1 := by rw [← H9.out, HQL1.out]
        subst hn9
        have bB : Below w.heap.size w w9 := (hbl.trans (Below.mono (show Below w5.heap.size w5 w8 from ⟨b8.os, b8.tape, b8.output, b8.size, b8.block⟩) hbl.size)).grown g9 (Nat.le_trans hbl.size b8.size) (fun r e => by have := (o8.2.lt r e).1; omega)
        have k9 := (kr.below (show Below w5.heap.size w5 w8 from ⟨b8.os, b8.tape, b8.output, b8.size, b8.block⟩) kr.lt).grown g9 (ne9 _ (by omega))
        have m9 := (nr.below (show Below w5.heap.size w5 w8 from ⟨b8.os, b8.tape, b8.output, b8.size, b8.block⟩) nr.lt).grown g9 (ne9 _ (by omega))
        have l9 : kb + 1 ≤ w9.heap.size := Nat.le_trans (Nat.le_trans lkb b8.size) g9.size
        clear g9 b8 o8 i8 r8 h8 i9 c0_2 ne9
        go_wp2_with fail
        go_roundw
        case rel => exact ⟨i + 1, A9, c9, Z, by omega, rfl, by go_num, h91, o9, k9, m9, r9, HZN.out, bB⟩
        case measure => simp [intOf]; omega
      · have hq0 : ¬ (i : Int) % 64 = 0 := by omega
        have hZe := hzz.2 (by omega)
        have HZN := Lib.hid (show Z.length = 64 ∧ ((i + 1) % 64 ≠ 0 → Z = Cc.block key (addI ctr (((i + 1) / 64 : Nat) : Int)) nonce) from ⟨hzz.1, fun h => by rw [hZe, show (i + 1) / 64 = i / 64 by omega]⟩)
        have HZ := Lib.hid (show Z.getD r 0 = streamAt key ctr nonce i by rw [HST.out, hZe])
        have HZL := Lib.hid hzz.1
        have hcy := hcy0
        have lkb := lkb0
        clear hZe hzz HST hcy0 lkb0
        generalize bs.getD i 0 = y at *
        generalize streamAt key ctr nonce i = z at *
        go_wp2_with fail
        refine wp_region_held (S := fun X => X.cell? ⟨b, off + i, none⟩ = some (.int .u8 y) ∧ Row X kb 88 .u8 Z) (by kernel_rfl) ?_
        change wpAnyH _ _ _ _ _ _ _ _ wr.drew
        have c0_0 : wr.drew.cell? ⟨b, off + i, none⟩ = some (.int .u8 y) ∧ Row wr.drew kb 88 .u8 Z := ⟨hcy, hZ⟩
        refine Held.tk (v := .slice A1 i c1) 0 (some 29) rfl (Held.y_move rfl rfl) c0_0 ?_
        simp only [Act.put, Z1, Z2, Z3]
        refine Held.tk (v := .slice (some ⟨b, off, none⟩) m c) 1 (some 30) rfl (Held.y_move rfl rfl) c0_0 ?_
        simp only [Act.put, Z1, Z2, Z3]
        refine Held.tk (v := .int .i64 (i : Int)) 2 (some 31) rfl (Held.y_move rfl rfl) c0_0 ?_
        simp only [Act.put, Z1, Z2, Z3]
        refine Held.tk (v := .pointer (some ⟨b, off + i, none⟩)) 3 (some 32) rfl (Held.y_addr rfl rfl rfl (fun X => Held.run_addr_slice 27 5 b off m c i .i64 Tryz.underlying27 (by kernel_rfl) hlt X)) c0_0 ?_
        simp only [Act.put, Z1, Z2, Z3]
        refine Held.tk (v := .int .u8 y) 4 (some 33) rfl (Held.y_load rfl rfl (by kernel_rfl) (fun X h => h.1)) c0_0 ?_
        simp only [Act.put, Z1, Z2, Z3]
        refine Held.tk (v := .int .i64 (i : Int)) 5 (some 34) rfl (Held.y_move rfl rfl) c0_0 ?_
        simp only [Act.put, Z1, Z2, Z3]
        refine Held.tk (v := .int .i64 (r : Int)) 6 (some 35) rfl (Held.y_int rfl rfl rfl (fun X => Held.run_rem _ _ (by omega) er1 X)) c0_0 ?_
        simp only [Act.put, Z1, Z2, Z3]
        refine Held.tk (v := .pointer (some ⟨kb, r, none⟩)) 7 (some 36) rfl (Held.y_addr rfl rfl rfl (fun X => Held.run_addr_arr 88 5 64 kb r .i64 Tryz.underlying88 (by kernel_rfl) hr64 X)) c0_0 ?_
        simp only [Act.put, Z1, Z2, Z3]
        refine Held.tk (v := .int .u8 z) 8 (some 37) rfl (Held.y_load rfl rfl (by kernel_rfl) (fun X h => by rw [h.2.cell (by rw [HZL.out]; exact hr64), HZ.out])) c0_0 ?_
        simp only [Act.put, Z1, Z2, Z3]
        refine Held.tk (v := .int .u8 (bits .xor .u8 y z)) 9 (some 38) rfl (Held.y_int rfl rfl rfl (fun X => Held.run_bitop (.inl rfl) _ _ rfl X)) c0_0 ?_
        simp only [Act.put, Z1, Z2, Z3]
        refine Held.one 10 (by kernel_rfl) ?_
        refine Held.op_build_Row 10 (some 39) 27 5 1 .u8 1 [bits .xor .u8 y z] rfl rfl rfl rfl Tryz.underlying27 info_u8 (by simp [Act.eval]) rfl (by omega) (by omega) (by simpa using wf_byte (byte_xor_bound hy hz)) ?_
        intro p8 w8 r8 b8 h8
        have c0_1 : w8.cell? ⟨b, off + i, none⟩ = some (.int .u8 y) ∧ Row w8 kb 88 .u8 Z := ⟨(b8.cell (World.block_lt_of_cell? _ _ c0_0.1)).trans c0_0.1, Row.below c0_0.2 b8 c0_0.2.lt⟩
        have o8 := Mem.Own.below (w := wr.drew) (hown.drewN 1) b8
        have i8 := r8.ints (n := 1) (by simp)
        refine ⟨c0_1, ?_⟩
        simp only [Act.put, Z1, Z2, Z3]
        refine Held.one 11 (by kernel_rfl) ?_
        refine Held.op_append_ints 11 (some 40) 27 rfl rfl rfl rfl (kb + 1) 5 .u8 1 Tryz.underlying27 info_u8 _ (xors key nonce ctr (bs.take i)) rfl o8 w8.heap.size (some ⟨p8, 0, none⟩) 1 1 [bits .xor .u8 y z] rfl i8 (by rw [HQL.out]; omega) (by omega) (Nat.le_trans lkb b8.size) ?_
        intro A9 n9 c9 w9 o9 g9 h91 h92 H9 i9
        have ne9 : ∀ p, p ≤ kb → some p ≠ (Value.slice A1 i c1).ownBlock := fun p hp e => by have := (o8.2.lt p e.symm).1; omega
        have r9 := c0_1.2.grown g9 (ne9 kb (Nat.le_refl _))
        have c0_2 : w9.cell? ⟨b, off + i, none⟩ = some (.int .u8 y) ∧ Row w9 kb 88 .u8 Z := ⟨(World.cell?_of_block (w := w8) (w' := w9) (a := ⟨b, off + i, none⟩) (g9.block b (World.block_lt_of_cell? _ _ c0_1.1) (ne9 b (by omega)))).trans c0_1.1, r9⟩
        refine ⟨c0_2, ?_⟩
        simp only [Act.put, Z1, Z2, Z3]
        refine Held.tk (v := .slice A9 n9 c9) 12 (some 9) rfl (Held.y_assign rfl rfl) c0_2 ?_
        simp only [Act.put, Z1, Z2, Z3]
        refine wpAnyH_done (by kernel_rfl) ?_ _
        rw [← HXq.out] at o9 H9
        have hn9 : n9 = i + 1 := by rw [← H9.out, HQL1.out]
        subst hn9
        have bB : Below w.heap.size w w9 := (hbl.trans (Below.mono (show Below wr.heap.size wr w8 from ⟨b8.os, b8.tape, b8.output, b8.size, b8.block⟩) hbl.size)).grown g9 (Nat.le_trans hbl.size b8.size) (fun r e => by have := (o8.2.lt r e).1; omega)
        have k9 := (kr.below (show Below wr.heap.size wr w8 from ⟨b8.os, b8.tape, b8.output, b8.size, b8.block⟩) kr.lt).grown g9 (ne9 _ (by omega))
        have m9 := (nr.below (show Below wr.heap.size wr w8 from ⟨b8.os, b8.tape, b8.output, b8.size, b8.block⟩) nr.lt).grown g9 (ne9 _ (by omega))
        have l9 : kb + 1 ≤ w9.heap.size := Nat.le_trans (Nat.le_trans lkb b8.size) g9.size
        clear g9 b8 o8 i8 r8 h8 i9 c0_2 ne9
        go_wp2_with fail
        go_roundw
        case rel => exact ⟨i + 1, A9, c9, Z, by omega, rfl, by go_num, h91, o9, k9, m9, r9, HZN.out, bB⟩
        case measure => simp [intOf]; omega
    · have him' : i = m := by omega
      subst him'
      rw [List.take_of_length_le (by rw [HB.out]; omega)] at hown
      go_wp2_with fail
      go_ret
      exact ⟨A1, c1, rfl, hc1, hown.less (by omega), hbl⟩
end Go.Proofs.YtjelacblnjbfgaaGreatDoor.Cha
namespace Go.Proofs.YtjelacblnjbfgaaGreatDoor.Po
open Go.Proofs.YtjelacblnjbfgaaGreatDoor.Sum
theorem digits_unique {xs : List Int} {n : Int} (h : Bs xs) (hv : val xs = n) : xs = digits n xs.length := by rw [← hv, digits_val h]
theorem val_set : ∀ (xs : List Int) (i : Nat) (x : Int), i < xs.length → val (xs.set i x) = val xs + (x - xs.getD i 0) * 256 ^ i
  | [], i, x, h => by simp at h
  | y :: ys, 0, x, _ => by simp [val]; omega
  | y :: ys, i + 1, x, h => by
    have ih := val_set ys i x (by simpa using h)
    rw [List.set_cons_succ, val, val, ih, List.getD_cons_succ, Int.pow_succ, Int.mul_comm (256 ^ i) 256, ← Int.mul_assoc, Int.mul_comm _ 256, Int.mul_assoc]
    omega
def cout (c : Int) (xs : List Int) : Nat → Int
  | 0 => c
  | k + 1 => (cout c xs k + xs.getD k 0) / 256
theorem cout_cons (c x : Int) (xs : List Int) : ∀ k, cout c (x :: xs) (k + 1) = cout ((c + x) / 256) xs k
  | 0 => rfl
  | k + 1 => by rw [cout, cout_cons c x xs k, List.getD_cons_succ, cout]
theorem carried_length : ∀ (c : Int) (xs : List Int), (carried c xs).length = xs.length
  | _, [] => rfl
  | c, x :: xs => by rw [carried, List.length_cons, List.length_cons, carried_length]
theorem carried_get : ∀ (c : Int) (xs : List Int) (k : Nat), k < xs.length → (carried c xs).getD k 0 = (cout c xs k + xs.getD k 0) % 256
  | _, [], _, h => by simp at h
  | c, x :: xs, 0, _ => rfl
  | c, x :: xs, k + 1, h => by rw [carried, List.getD_cons_succ, List.getD_cons_succ, cout_cons, carried_get _ xs k (by simpa using h)]
theorem cout_bound {xs : List Int} (h : ∀ x ∈ xs, 0 ≤ x ∧ x < 16777216) : ∀ k, 0 ≤ cout 0 xs k ∧ cout 0 xs k < 131072
  | 0 => by simp [cout]
  | k + 1 => by
    have ih := cout_bound h k
    have := getD_range (P := fun x => 0 ≤ x ∧ x < 16777216) h (by omega) k
    rw [cout]
    omega
theorem carried_bytes (c : Int) : ∀ (xs : List Int), Bs (carried c xs)
  | [] => fun z hz => by cases hz
  | x :: xs => fun z hz => by
    rcases List.mem_cons.1 hz with rfl | h
    · omega
    · exact carried_bytes _ xs z h
theorem carried_zero (xs : List Int) (n : Int) (h : val xs = n) : carried 0 xs = digits n xs.length := by rw [carried_eq, Int.zero_add, h]
def lowL (a : List Int) : List Int := a.take 16 ++ a.getD 16 0 % 4 :: List.replicate 23 0
def highAt (a : List Int) (j : Nat) : Int := a.getD (16 + j) 0 / 4 + a.getD (17 + j) 0 * 64 % 256
def highL (a : List Int) : List Int := (List.range 24).map (highAt a) ++ List.replicate 16 0
theorem digits_get_all (n : Int) (h0 : 0 ≤ n) (hn : n < 256 ^ 40) (i : Nat) : (digits n 40).getD i 0 = n / 256 ^ i % 256 := by
  by_cases hi : i < 40
  · exact digits_get 40 n i hi
  · rw [List.getD_eq_getElem?_getD, List.getElem?_eq_none (by rw [digits_length]; omega)]
    have e : n / 256 ^ i = 0 := by
      obtain ⟨d, rfl⟩ : ∃ d, i = 40 + d := ⟨i - 40, by omega⟩
      rw [Int.pow_add, ← Int.ediv_ediv_of_nonneg (by decide), Int.ediv_eq_zero_of_lt h0 hn]
      simp
    rw [e]
    rfl
theorem low_high {n : Int} (h0 : 0 ≤ n) (hn : n < 256 ^ 40) : val (lowL (digits n 40)) = n % 2 ^ 130 ∧ val (highL (digits n 40)) = n / 2 ^ 130 := by
  constructor
  · have e : lowL (digits n 40) = digits (n % 2 ^ 130) 17 ++ List.replicate 23 0 := by
      simp only [lowL, digits, List.take_succ_cons, List.take_zero, List.getD_cons_succ, List.getD_cons_zero, List.cons_append, List.nil_append]
      congr 1
      · omega
      congr 1
      · omega
      congr 1
      · omega
      congr 1
      · omega
      congr 1
      · omega
      congr 1
      · omega
      congr 1
      · omega
      congr 1
      · omega
      congr 1
      · omega
      congr 1
      · omega
      congr 1
      · omega
      congr 1
      · omega
      congr 1
      · omega
      congr 1
      · omega
      congr 1
      · omega
      congr 1
      · omega
      congr 1
      omega
    rw [e, val_append, val_zeros, val_digits]
    omega
  · have e : highL (digits n 40) = digits (n / 2 ^ 130) 24 ++ List.replicate 16 0 := by
      unfold highL
      congr 1
      apply List.ext_getElem
      · rw [digits_length]; simp
      · intro j h1 h2
        have hj : j < 24 := by simpa using h1
        have e1 := digits_get 24 (n / 2 ^ 130) j hj
        rw [List.getD_eq_getElem?_getD, List.getElem?_eq_getElem h2, Option.getD_some] at e1
        rw [e1]
        simp only [List.getElem_map, List.getElem_range, highAt]
        rw [digits_get_all n h0 hn, digits_get_all n h0 hn]
        have p1 : (0 : Int) < 256 ^ j := Int.pow_pos (by omega)
        have q1 : n / 256 ^ (16 + j) = n / 256 ^ j / 256 ^ 16 := by rw [Nat.add_comm, Int.pow_add, Int.ediv_ediv_of_nonneg (by omega)]
        have q2 : n / 256 ^ (17 + j) = n / 256 ^ j / 256 ^ 17 := by rw [Nat.add_comm, Int.pow_add, Int.ediv_ediv_of_nonneg (by omega)]
        have q3 : n / 2 ^ 130 / 256 ^ j = n / 256 ^ j / 2 ^ 130 := by rw [Int.ediv_ediv_of_nonneg (by omega), Int.ediv_ediv_of_nonneg (by omega), Int.mul_comm]
        rw [q1, q2, q3]
        omega
    rw [e, val_append, val_zeros, val_digits]
    omega
theorem lowL_length {a : List Int} (h : a.length = 40) : (lowL a).length = 40 := by simp [lowL, h]
theorem highL_length (a : List Int) : (highL a).length = 40 := by simp [highL]
theorem lowL_bytes {a : List Int} (h : Bs a) : Bs (lowL a) := fun z hz => by
  rcases List.mem_append.1 hz with h1 | h1
  · exact h z (List.mem_of_mem_take h1)
  · rcases List.mem_cons.1 h1 with rfl | h1
    · have := h.at_ 16; omega
    · rw [List.eq_of_mem_replicate h1]; omega
theorem highL_bytes {a : List Int} (h : Bs a) : Bs (highL a) := fun z hz => by
  rcases List.mem_append.1 hz with h1 | h1
  · obtain ⟨j, _, rfl⟩ := List.mem_map.1 h1
    have h2 := h.at_ (16 + j)
    have h3 := h.at_ (17 + j)
    unfold highAt
    omega
  · rw [List.eq_of_mem_replicate h1]; omega
def fold (a : List Int) : List Int := List.zipWith (fun x y => x + 5 * y) (lowL a) (highL a)
theorem val_zip : ∀ {xs ys : List Int}, xs.length = ys.length → val (List.zipWith (fun x y => x + 5 * y) xs ys) = val xs + 5 * val ys
  | [], [], _ => rfl
  | x :: xs, y :: ys, h => by
    have := val_zip (xs := xs) (ys := ys) (by simpa using h)
    rw [List.zipWith_cons_cons, val, val, val, this]
    omega
theorem fold_length {a : List Int} (h : a.length = 40) : (fold a).length = 40 := by simp [fold, lowL_length h, highL_length]
theorem fold_get {a : List Int} (h : a.length = 40) {i : Nat} (hi : i < 40) : (fold a).getD i 0 = (lowL a).getD i 0 + 5 * (highL a).getD i 0 := by
  have h1 : i < (lowL a).length := by rw [lowL_length h]; exact hi
  have h2 : i < (highL a).length := by rw [highL_length]; exact hi
  simp [fold, List.getD_eq_getElem?_getD, List.getElem?_zipWith, h1, h2]
theorem fold_bound {a : List Int} (h : Bs a) : ∀ x ∈ fold a, 0 ≤ x ∧ x < 16777216 := by
  intro x hx
  obtain ⟨i, hi, rfl⟩ := List.mem_iff_getElem.1 hx
  simp only [fold, List.length_zipWith] at hi
  simp only [fold, List.getElem_zipWith]
  have h1 := lowL_bytes h _ (List.getElem_mem (show i < (lowL a).length by omega))
  have h2 := highL_bytes h _ (List.getElem_mem (show i < (highL a).length by omega))
  omega
theorem fold_val {n : Int} (h0 : 0 ≤ n) (hn : n < 256 ^ 40) : val (fold (digits n 40)) = red n := by
  have h := low_high h0 hn
  rw [fold, val_zip (by rw [lowL_length (digits_length 40 n), highL_length]), h.1, h.2]
  rfl
theorem red_small {n : Int} (h0 : 0 ≤ n) (hn : n < 2 ^ 300) : red n < 2 ^ 300 := by unfold red; omega
def reds (n : Int) : Nat → Int
  | 0 => n
  | k + 1 => red (reds n k)
theorem reds_bound {n : Int} (h0 : 0 ≤ n) (hn : n < 2 ^ 300) : ∀ k, 0 ≤ reds n k ∧ reds n k < 2 ^ 300
  | 0 => ⟨h0, hn⟩
  | k + 1 => by
    have ih := reds_bound h0 hn k
    exact ⟨red_nonneg ih.1, red_small ih.1 ih.2⟩
theorem reds_mod (n : Int) : ∀ k, reds n k % modulus = n % modulus
  | 0 => rfl
  | k + 1 => by rw [reds, red_mod, reds_mod n k]
theorem reds_four {n : Int} (h0 : 0 ≤ n) (hn : n < 2 ^ 300) : 0 ≤ reds n 4 ∧ reds n 4 < 2 ^ 130 := red_four h0 hn
theorem least_big {n : Int} (h0 : 0 ≤ n) (hn : n < 2 ^ 130) (hb : 4 ≤ (digits (n + 5) 40).getD 16 0) : (digits (n + 5) 40).set 16 ((digits (n + 5) 40).getD 16 0 - 4) = digits (n % modulus) 40 := by
  have hg := digits_get 40 (n + 5) 16 (by omega)
  rw [hg] at hb ⊢
  have hl : ((digits (n + 5) 40).set 16 ((n + 5) / 256 ^ 16 % 256 - 4)).length = 40 := by rw [List.length_set, digits_length]
  have hv := val_set (digits (n + 5) 40) 16 ((n + 5) / 256 ^ 16 % 256 - 4) (by rw [digits_length]; omega)
  rw [hg, val_digits] at hv
  have hby : Bs ((digits (n + 5) 40).set 16 ((n + 5) / 256 ^ 16 % 256 - 4)) := fun z hz => by
    rcases List.mem_or_eq_of_mem_set hz with h1 | h1
    · exact digits_bytes 40 _ z h1
    · rw [h1]; omega
  have := digits_unique hby hv
  rw [hl] at this
  rw [this]
  congr 1
  unfold modulus
  omega
theorem least_small {n : Int} (h0 : 0 ≤ n) (hn : n < 2 ^ 130) (hb : (digits (n + 5) 40).getD 16 0 < 4) : digits n 40 = digits (n % modulus) 40 := by
  rw [digits_get 40 (n + 5) 16 (by omega)] at hb
  congr 1
  unfold modulus
  omega
end Go.Proofs.YtjelacblnjbfgaaGreatDoor.Po
