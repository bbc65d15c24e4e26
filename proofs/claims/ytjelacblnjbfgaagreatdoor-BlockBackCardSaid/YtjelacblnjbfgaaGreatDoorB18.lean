/-
  The document's own Tag by its contract: the tag is the one that the standard's own words say.
  The document's own tag (package dominoref07) by its contract: the tag of what stands beside and of what was turned.
  The document's own Seal (package dominoref07) by its contract: what was turned, and the tag behind it; too much is refused.
-/
import Derived.Test.YtjelacblnjbfgaaGreatDoorB17
import Derived.Test.YtjelacblnjbfgaaGreatDoorB14
import Derived.Test.YtjelacblnjbfgaaGreatDoorB16
import Derived.Test.YtjelacblnjbfgaaGreatDoorB8
import Derived.Test.YtjelacblnjbfgaaGreatDoorB4
set_option linter.unusedVariables false
namespace Go.Proofs.YtjelacblnjbfgaaGreatDoor.Po
open Go.RowKit Go.Shelf Mem Go.Proofs.YtjelacblnjbfgaaGreatDoor.Sum
attribute [local irreducible] wpList wpListIn
theorem wpList_min {P : Program} {ops : Array Oper} {rest : List Oper} {o : Oper} {a : Act} {w : World} {Q : Exit → Act → World → Prop} (hgd : o.guard = none) (x y : Operand) (ts : Array TypeId) (ho : o.op = .call { callee := .builtin .min, args := #[x, y], argTypes := ts }) (k : IntKind) (u v r : Int) (hx : a.eval x = .int k u) (hy : a.eval y = .int k v)
    (hr : (if v < u then v else u) = r) (h : wpList P ops Q rest (a.put o.dst (.int k r)) w) : wpList P ops Q (o :: rest) a w := by
  refine wpList_plain hgd fun K hK => ?_
  unfold Oper.wp execOp
  simp [ho, resolve, invoke, builtin, hx, hy, run_min_int2, hr]
  exact hK _ _ h
theorem mod_step' (a v r : Int) : (a + v) * r % modulus = (a % modulus + v) * r % modulus := by
  have h := Int.mul_ediv_add_emod a modulus
  generalize a / modulus = q at h
  generalize a % modulus = s at h ⊢
  have e : (a + v) * r = (s + v) * r + modulus * (q * r) := by rw [← h]; grind
  rw [e, Int.add_mul_emod_self_left]
theorem wideD_get (n : Int) {i : Nat} (hi : i < 16) : (digits n 40).getD i 0 = (digits n 16).getD i 0 := by rw [digits_get 40 n i (by omega), digits_get 16 n i hi]
set_option maxRecDepth 100000 in
set_option maxHeartbeats 4000000 in
theorem rtag_any (key : List Int) (B : Nat) (A : Option Addr) (n c : Nat) (xs : List Int) (w : World) (hk : key.length = 32) (hkb : Bs key) (h : Ints w .u8 B A n xs) (hxb : Bs xs) (hB : B ≤ w.heap.size) (hn : n ≤ 1099511627776) :
    Calls Tryz.prog 66 #[.agg (arr .u8 key), .slice A n c] w fun e w' => e = .returned (.agg (arr .u8 (poly key xs))) ∧ Below w.heap.size w w' := by
  have HK := Lib.hid hk
  have HX := Lib.hid h.1
  have HDW := Lib.hid (fun m : Int => bytes32 (digits_bytes 40 m))
  have HDL := Lib.hid (fun m : Int => digits_length 40 m)
  have HCL := Lib.hid (clamp_length key)
  have HCW := Lib.hid (bs_wf (clamp_bytes hkb))
  have hni : (n : Int) ≤ 1099511627776 := by omega
  clear hk
  go_enter Tryz.func66, Tryz.ntmps66
  go_wp2_with (first
    | (refine wpList_box_Row (w := w) rfl 22 _ rfl .u8 key rfl (bs_wf hkb) ?_; intro w1 r1 g1 z1)
    | (refine wpList_alloc_Row (w := w1) rfl 58 rfl .u8 16 zero_16b ?_; intro w2 r2 g2 z2; have p2 := r1.grown g2 (by simp))
    | (refine wpList_load_Row (w := w2) rfl 22 _ rfl w.heap.size rfl 22 .u8 _ p2 32 5 Tryz.underlying22 (by kernel_rfl) HK.out ?_))
  obtain ⟨gr, hgr⟩ : ∃ g, w1.heap.size = g := ⟨_, rfl⟩
  have l1 := r1.lt
  have b2 : Below w.heap.size w w2 := ((Below.refl _ w).grown g1 (Nat.le_refl _) (by simp)).grown g2 g1.size (by simp)
  rw [hgr] at l1 r2 ⊢
  clear hgr r1 g1 g2 z1 z2 w1
  refine (rclamp_any key w2 HK.out hkb).mono ?_
  rintro e w3 ⟨rfl, hb3⟩
  have k3 := p2.below hb3 p2.lt
  have e3 := r2.below hb3 r2.lt
  have b3 := b2.trans (hb3.mono b2.size)
  have l3 := e3.lt
  clear p2 r2 b2 hb3 w2
  go_wp2_with (first
    | (refine wpList_alloc_Row (w := w3) rfl 58 rfl .u8 16 zero_16b ?_; intro w4 r4 g4 z4)
    | (refine wpList_store_RowTo (w := w4) rfl 58 _ _ rfl w3.heap.size rfl 58 .u8 _ (clamp key) rfl r4 16 info_16b HCL.out (by simp) HCW.out ?_; intro w5 r5 g5 z5)
    | (refine wpList_alloc_Row (w := w5) rfl 129 rfl .u32 40 zero_forty ?_; intro w6 r6 g6 z6))
  obtain ⟨gc, hgc⟩ : ∃ g, w3.heap.size = g := ⟨_, rfl⟩
  obtain ⟨ga, hga⟩ : ∃ g, w5.heap.size = g := ⟨_, rfl⟩
  have l5 := r5.lt
  rw [hgc] at l3 r5 l5 ⊢
  rw [hga] at l5 r6 ⊢
  have b6 : Below w.heap.size w w6 := ((b3.grown g4 b3.size (by simp)).grown g5 (by have := b3.size; have := g4.size; omega) (fun r e => by have := b3.size; cases e; omega)).grown g6 (by have := b3.size; have := g4.size; have := g5.size; omega) (by simp)
  have k6 := ((k3.grown g4 (by simp)).grown g5 (by intro e; injection e with e; omega)).grown g6 (by simp)
  have e6 := ((e3.grown g4 (by simp)).grown g5 (by intro e; injection e with e; omega)).grown g6 (by simp)
  have c6 := r5.grown g6 (by simp)
  have hz40 : List.replicate 40 (0 : Int) = digits 0 40 := by decide
  rw [hz40] at r6
  clear hgc hga r4 r5 g4 g5 g6 z4 z5 z6 k3 e3 b3 hz40 w3 w4 w5
  go_loopw [7] (fun i wr => ∃ (k : Nat) (m : Int), k ≤ count xs ∧ i = .int .i64 ((16 * k : Nat) : Int) ∧ Hid (0 ≤ m ∧ m < 2 ^ 130 ∧ m % modulus = acc (val (clamp key)) xs k) ∧ Below w.heap.size w wr ∧ Row wr w.heap.size 22 .u8 key ∧ Row wr gr 58 .u8 (List.replicate 16 0) ∧ Row wr gc 58 .u8 (clamp key) ∧ Row wr ga 129 .u32 (digits m 40)) (fun i _ => n - (intOf i).toNat)
  case atStart => exact ⟨0, 0, by omega, rfl, Lib.hid ⟨by omega, by omega, by simp [acc]⟩, b6, k6, e6, c6, r6⟩
  case round =>
    clear b6 k6 e6 c6 r6
    obtain ⟨k, m, hk, rfl, hm, hbl, kr, er, cr, ar⟩ := hrel
    by_cases hlt : 16 * k < n
    · have hlt' : ((16 * k : Nat) : Int) < (n : Int) := by omega
      have hk0 : (0 : Int) ≤ ((16 * k : Nat) : Int) := by omega
      obtain ⟨p, hp⟩ : ∃ p, 16 * k = p := ⟨_, rfl⟩
      rw [hp] at hlt' hk0 hlt ⊢
      obtain ⟨cl, hcl⟩ : ∃ cl, (chunk xs k).length = cl := ⟨_, rfl⟩
      have hcl2 : cl = min 16 (n - p) := by rw [← hcl, chunk_length, HX.out, hp]
      have hmin : (if (n : Int) - (p : Int) < 16 then (n : Int) - (p : Int) else 16) = (cl : Int) := by split <;> omega
      have HP := Lib.hid hp
      have HCLE := Lib.hid hcl
      have HMIN := Lib.hid hmin
      have hcl16 : cl ≤ 16 := by omega
      have hcl0 : 0 < cl := by omega
      have hcln : p + cl ≤ n := by omega
      clear hp hcl hmin hcl2
      go_wp2_with (refine wpList_min rfl _ _ _ rfl .i64 16 ((n : Int) - (p : Int)) (cl : Int) rfl rfl HMIN.out ?_)
      have HMV := Lib.hid hm.out
      have HDM := Lib.hid (digits_bytes 40 m)
      have HVM := Lib.hid (show val (digits m 40) = m by rw [val_digits]; have := hm.out; omega)
      have HDML := HDL.out m
      generalize digits m 40 = D at *
      have hLL : D.length = (wideP xs k).length := by rw [HDML, wideP_length]
      have HFL := Lib.hid (show (addB D (wideP xs k)).length = D.length from addB_length hLL)
      have HFB := Lib.hid (addB_bound HDM.out (wideP_bytes hxb k))
      have HFV := Lib.hid (show val (addB D (wideP xs k)) = m + val (pieceAt xs k) by rw [val_addB hLL, HVM.out, wideP_val])
      have HGL := Lib.hid (fun i (hi : i < cl) => show (addB D (wideP xs k)).getD i 0 = D.getD i 0 + xs.getD (p + i) 0 by
        rw [addB_get (by omega) (by rw [wideP_length]; omega), wideP_get_lo xs k (by rw [HCLE.out]; exact hi), HP.out])
      have HGA := Lib.hid (show (addB D (wideP xs k)).getD cl 0 = D.getD cl 0 + 1 by
        rw [addB_get (by omega) (by rw [wideP_length]; omega)]
        have := wideP_get_at xs k
        rw [HCLE.out] at this
        rw [this])
      have HGH := Lib.hid (fun j (hj : cl + 1 ≤ j) (hjD : j < D.length) => show (addB D (wideP xs k)).getD j 0 = D.getD j 0 by
        rw [addB_get hjD (by rw [wideP_length]; omega), wideP_get_hi xs k (by rw [HCLE.out]; omega)]
        omega)
      have HDA := Lib.hid (fun i => HDM.out.at_ i)
      have HXA := Lib.hid (fun i => hxb.at_ i)
      have HDX := Lib.hid HDML
      clear HDML hLL
      generalize addB D (wideP xs k) = S at *
      go_loopw [9] (fun i wr => ∃ q : Nat, q ≤ cl ∧ i = .int .i64 q ∧ Below w.heap.size w wr ∧ Row wr w.heap.size 22 .u8 key ∧ Row wr gr 58 .u8 (List.replicate 16 0) ∧ Row wr gc 58 .u8 (clamp key) ∧ Row wr ga 129 .u32 (blend S D q)) (fun i _ => cl - (intOf i).toNat)
      case atStart => exact ⟨0, by omega, rfl, hbl, kr, er, cr, by rw [blend_zero]; exact ar⟩
      case round =>
        clear hbl kr er cr ar
        obtain ⟨q, hq, rfl, hbl, kr, er, cr, ar⟩ := hrel
        have hq0 : (0 : Int) ≤ (q : Int) := by omega
        by_cases hlq : q < cl
        · have hlq' : (q : Int) < (cl : Int) := by omega
          have hq40 : (q : Int) < 40 := by omega
          have hLen : S.length = D.length := HFL.out
          have hqD : q < D.length := by rw [HDX.out]; omega
          have ca := ar.cell (i := q) (by rw [blend_length hLen]; exact hqD)
          rw [blend_get hLen hqD] at ca
          obtain ⟨bb, off, rfl, hbB, hcc⟩ := h.2.2 (by omega)
          have ct := (hbl.cell (p := ⟨bb, off + (p + q), none⟩) (by simp; omega)).trans (hcc (p + q) (by omega))
          have fa := ar.frozen q
          have hg := HGL.out q hlq
          have hx := HDA.out q
          have hy := HXA.out (p + q)
          have hpq : ((p : Int) + (q : Int)) < (n : Int) := by omega
          have hpq0 : (0 : Int) ≤ (p : Int) + (q : Int) := by omega
          have hpqw : IntKind.i64.wrap ((p : Int) + (q : Int)) = (p : Int) + (q : Int) := IntWalk.i64_in _ (by omega)
          have hpqn : ((p : Int) + (q : Int)).toNat = p + q := by omega
          have HS := Lib.hid (show Row (wr.setCell ⟨ga, q, none⟩ (.int .u32 (D.getD q 0 + xs.getD (p + q) 0))) ga 129 .u32 (blend S D (q + 1)) by
            rw [← blend_set hLen hqD, hg]
            exact ar.set q (wf_32 (by omega)))
          have HE := er.other (p := ⟨ga, q, none⟩) (by simp; omega) (.int .u32 (D.getD q 0 + xs.getD (p + q) 0))
          have HE2 := kr.other (p := ⟨ga, q, none⟩) (by simp; omega) (.int .u32 (D.getD q 0 + xs.getD (p + q) 0))
          have HE3 := cr.other (p := ⟨ga, q, none⟩) (by simp; omega) (.int .u32 (D.getD q 0 + xs.getD (p + q) 0))
          have HBL := Lib.hid (hbl.setCell (p := ⟨ga, q, none⟩) (by simp; omega) (.int .u32 (D.getD q 0 + xs.getD (p + q) 0)))
          clear hLen hg ar er kr cr hbl hqD
          generalize D.getD q 0 = x at *
          generalize xs.getD (p + q) 0 = y at *
          have hcv : IntKind.u32.wrap y = y := IntWalk.u32_in _ (by omega)
          have hadd : IntKind.u32.wrap (x + y) = x + y := IntWalk.u32_in _ (by omega)
          have hadd2 : (x + y) % 4294967296 = x + y := by omega
          go_wp2_with fail
          go_still_tail 13, (by kernel_rfl)
          change wpList _ _ _ _ _ wr.drew
          go_wp2_with fail
          go_roundw
          case rel => exact ⟨q + 1, by omega, by go_num, HBL.out.drew, HE2, HE, HE3, HS.out⟩
          case measure => simp [intOf]; omega
        · obtain rfl : q = cl := by omega
          have hLen : S.length = D.length := HFL.out
          have hqD : q < D.length := by rw [HDX.out]; omega
          have ca := ar.cell (i := q) (by rw [blend_length hLen]; exact hqD)
          rw [blend_get hLen hqD] at ca
          have hx := HDA.out q
          have hset := blend_set hLen hqD
          rw [HGA.out, blend_rest hLen (q + 1) HGH.out] at hset
          have HSET := Lib.hid hset
          have HBL40 := Lib.hid (show (blend S D q).length = 40 by rw [blend_length hLen, HDX.out])
          have HSL := Lib.hid (show S.length = 40 by rw [hLen, HDX.out])
          have hvp := val_chunk_lt hxb k
          rw [← val_pieceAt] at hvp
          have hms := HMV.out
          obtain ⟨s, hs⟩ : ∃ s, m + val (pieceAt xs k) = s := ⟨_, rfl⟩
          have hs0 : 0 ≤ s := by omega
          have hs1 : s < 2 ^ 131 := by omega
          have HSE := Lib.hid hs
          have HFV' := Lib.hid (show val S = s by rw [HFV.out, hs])
          clear hset hLen hqD hlq hvp hms hs
          generalize D.getD q 0 = x at *
          have hadd : IntKind.u32.wrap (x + 1) = x + 1 := IntWalk.u32_in _ (by omega)
          have hadd2 : (x + 1) % 4294967296 = x + 1 := by omega
          have w0 : (Lit.int .u32 (x + 1)).wf = true := wf_32 (by omega)
          have hq40 : (q : Int) < 40 := by omega
          go_wp2_with (first
            | (refine wpList_store_elem (w := wr) rfl 57 _ _ rfl ga q rfl 129 .u32 _ (x + 1) rfl ar (by rw [HBL40.out]; omega) info_u32 w0 ?_; intro w4 q4 g4 z4; rw [HSET.out] at q4)
            | (refine wpList_load_Row (w := w4) rfl 129 _ rfl ga rfl 129 .u32 _ q4 40 57 Tryz.underlying129 info_forty HSL.out ?_))
          have b4 := hbl.grown g4 hbl.size (fun r e => by cases e; omega)
          have k4 := kr.grown g4 (by intro e; injection e with e; omega)
          have e4 := er.grown g4 (by intro e; injection e with e; omega)
          have c4 := cr.grown g4 (by intro e; injection e with e; omega)
          clear hbl kr er cr ar g4 z4 ca hadd hadd2 w0
          refine (rcarry_any S s w4 HSL.out (fun z hz => by have := HFB.out z hz; omega) HFV'.out).mono ?_
          rintro e w5 ⟨rfl, hb5⟩
          have b5 := b4.trans (hb5.mono b4.size)
          have k5 := k4.below hb5 k4.lt
          have e5 := e4.below hb5 e4.lt
          have c5 := c4.below hb5 c4.lt
          have q5 := q4.below hb5 q4.lt
          have hdw := HDW.out s
          have hdl := HDL.out s
          clear b4 k4 e4 c4 q4 hb5
          go_wp2_with (first
            | (refine wpList_store_RowTo (w := w5) rfl 129 _ _ rfl ga rfl 129 .u32 _ (digits s 40) rfl q5 40 info_forty hdl HSL.out hdw ?_; intro w6 q6 g6 z6)
            | (refine wpList_alloc_Row (w := w6) rfl 129 rfl .u32 40 zero_forty ?_; intro w7 r7 g7 z7))
          obtain ⟨gp, hgp⟩ : ∃ g, w6.heap.size = g := ⟨_, rfl⟩
          have lp := q6.lt
          have b7 := (b5.grown g6 b5.size (fun r e => by cases e; omega)).grown g7 (by have := b5.size; have := g6.size; omega) (by simp)
          have k7 := (k5.grown g6 (by intro e; injection e with e; omega)).grown g7 (by simp)
          have e7 := (e5.grown g6 (by intro e; injection e with e; omega)).grown g7 (by simp)
          have c7 := (c5.grown g6 (by intro e; injection e with e; omega)).grown g7 (by simp)
          have a7 := q6.grown g7 (by simp)
          rw [hgp] at lp r7 ⊢
          have HSD := Lib.hid (digits_bytes 40 s)
          have HSA := Lib.hid (fun i => (digits_bytes 40 s).at_ i)
          have HCA := Lib.hid (fun i => (clamp_bytes hkb).at_ i)
          have HPE := Lib.hid (prod_end (clamp key) hs0 (show s < 256 ^ 18 by omega))
          have HPN := Lib.hid (fun i (hi : i < 18) => show prod (digits s 40) (clamp key) i 16 = prod (digits s 40) (clamp key) (i + 1) 0 from by
            have := prod_next (s := digits s 40) (c := clamp key) (i := i) (by rw [hdl]; omega)
            rwa [clamp_length] at this)
          have HPS := Lib.hid (fun i j (hj : j < 16) => prod_step (s := digits s 40) (c := clamp key) i (j := j) (by rw [clamp_length]; exact hj))
          have HP0 := Lib.hid (prod_start (digits s 40) (clamp key))
          have HSLN := Lib.hid hdl
          clear hgp b5 k5 e5 c5 q5 q6 g6 g7 z6 z7 hdw hdl
          obtain ⟨E, hE⟩ : ∃ E, digits s 40 = E := ⟨_, rfl⟩
          rw [hE] at a7 HSD HSA HPE HP0 HSLN
          simp only [hE] at HPN HPS
          clear hE
          go_loopw [11] (fun i wr => ∃ (i' : Nat) (ps : List Int), i' ≤ 18 ∧ i = .int .i64 i' ∧ Hid (val ps = prod E (clamp key) i' 0) ∧ Hid (Small ps i' 0) ∧ Below w.heap.size w wr ∧ Row wr w.heap.size 22 .u8 key ∧ Row wr gr 58 .u8 (List.replicate 16 0) ∧ Row wr gc 58 .u8 (clamp key) ∧ Row wr ga 129 .u32 E ∧ Row wr gp 129 .u32 ps) (fun i _ => 18 - (intOf i).toNat)
          case atStart => exact ⟨0, _, by omega, rfl, Lib.hid (by rw [HP0.out, val_zeros]), Lib.hid small_start, b7, k7, e7, c7, a7, r7⟩
          case round =>
            clear b7 k7 e7 c7 a7 r7
            obtain ⟨i, ps, hi, rfl, hv, hsm, hbl, kr, er, cr, ar, pr⟩ := hrel
            have hi0 : (0 : Int) ≤ (i : Int) := by omega
            by_cases hli : i < 18
            · have hli' : (i : Int) < 18 := by omega
              go_wp2_with fail
              go_loopw [12] (fun j wr => ∃ (j' : Nat) (ps : List Int), j' ≤ 16 ∧ j = .int .i64 j' ∧ Hid (val ps = prod E (clamp key) i j') ∧ Hid (Small ps i j') ∧ Below w.heap.size w wr ∧ Row wr w.heap.size 22 .u8 key ∧ Row wr gr 58 .u8 (List.replicate 16 0) ∧ Row wr gc 58 .u8 (clamp key) ∧ Row wr ga 129 .u32 E ∧ Row wr gp 129 .u32 ps) (fun j _ => 16 - (intOf j).toNat)
              case atStart => exact ⟨0, ps, by omega, rfl, hv, hsm, hbl, kr, er, cr, ar, pr⟩
              case round =>
                clear hbl kr er cr ar pr hv hsm
                obtain ⟨j, qs, hj, rfl, hv, hsm, hbl, kr, er, cr, ar, pr⟩ := hrel
                have hj0 : (0 : Int) ≤ (j : Int) := by omega
                by_cases hlj : j < 16
                · have hlj' : (j : Int) < 16 := by omega
                  have hij : i + j < qs.length := by rw [hsm.out.1]; omega
                  have cp := pr.cell (i := i + j) hij
                  have ca := ar.cell (i := i) (by rw [HSLN.out]; omega)
                  have cc := cr.cell (i := j) (by rw [HCL.out]; exact hlj)
                  have fp := pr.frozen (i + j)
                  have hx := HSA.out i
                  have hy := HCA.out j
                  have hz := hsm.out.2.1 (i + j)
                  have hxy := byte_mul hx hy
                  have hset := val_set qs (i + j) (qs.getD (i + j) 0 + E.getD i 0 * (clamp key).getD j 0) hij
                  have HV := Lib.hid (show val (qs.set (i + j) (qs.getD (i + j) 0 + E.getD i 0 * (clamp key).getD j 0)) = prod E (clamp key) i (j + 1) by
                    rw [hset, HPS.out i j hlj, hv.out, (fun a b => by omega : ∀ a b : Int, a + b - a = b)])
                  have HSM := Lib.hid (hsm.out.step (by omega) hxy)
                  have HS := Lib.hid (show Row (wr.setCell ⟨gp, i + j, none⟩ (.int .u32 (qs.getD (i + j) 0 + E.getD i 0 * (clamp key).getD j 0))) gp 129 .u32 (qs.set (i + j) (qs.getD (i + j) 0 + E.getD i 0 * (clamp key).getD j 0)) from pr.set (i + j) (wf_32 (by omega)))
                  have HE := er.other (p := ⟨gp, i + j, none⟩) (by simp; omega) (.int .u32 (qs.getD (i + j) 0 + E.getD i 0 * (clamp key).getD j 0))
                  have HE2 := kr.other (p := ⟨gp, i + j, none⟩) (by simp; omega) (.int .u32 (qs.getD (i + j) 0 + E.getD i 0 * (clamp key).getD j 0))
                  have HE3 := cr.other (p := ⟨gp, i + j, none⟩) (by simp; omega) (.int .u32 (qs.getD (i + j) 0 + E.getD i 0 * (clamp key).getD j 0))
                  have HE4 := ar.other (p := ⟨gp, i + j, none⟩) (by simp; omega) (.int .u32 (qs.getD (i + j) 0 + E.getD i 0 * (clamp key).getD j 0))
                  have HBL := Lib.hid (hbl.setCell (p := ⟨gp, i + j, none⟩) (by simp; omega) (.int .u32 (qs.getD (i + j) 0 + E.getD i 0 * (clamp key).getD j 0)))
                  clear hset er kr cr ar pr hbl hij
                  generalize qs.getD (i + j) 0 = z at *
                  generalize E.getD i 0 = x at *
                  generalize (clamp key).getD j 0 = y at *
                  have hcv : IntKind.u32.wrap y = y := IntWalk.u32_in _ (by omega)
                  have hmul : IntKind.u32.wrap (x * y) = x * y := IntWalk.u32_in _ (by omega)
                  have hadd : IntKind.u32.wrap (z + x * y) = z + x * y := IntWalk.u32_in _ (by omega)
                  have hadd2 : (z + x * y) % 4294967296 = z + x * y := by omega
                  have hmul2 : (x * y) % 4294967296 = x * y := by omega
                  have hijw : IntKind.i64.wrap ((i : Int) + (j : Int)) = (i : Int) + (j : Int) := IntWalk.i64_in _ (by omega)
                  have hij40 : (i : Int) + (j : Int) < 40 := by omega
                  have hij0 : (0 : Int) ≤ (i : Int) + (j : Int) := by omega
                  have hi40 : (i : Int) < 40 := by omega
                  have hijn : ((i : Int) + (j : Int)).toNat = i + j := by omega
                  go_wp2_with fail
                  go_still_tail 18, (by kernel_rfl)
                  change wpList _ _ _ _ _ wr.drew
                  go_wp2_with fail
                  go_roundw
                  case rel => exact ⟨j + 1, _, by omega, by go_num, HV, HSM, HBL.out.drew, HE2, HE, HE3, HE4, HS.out⟩
                  case measure => simp [intOf]; omega
                · obtain rfl : j = 16 := by omega
                  rw [HPN.out i hli] at hv
                  go_wp2_with fail
                  go_roundw
                  case rel => exact ⟨i + 1, qs, by omega, by go_num, hv, Lib.hid hsm.out.next, hbl, kr, er, cr, ar, pr⟩
                  case measure => simp [intOf]; omega
            · have hi18 : i = 18 := by omega
              have hnl : ¬ (i : Int) < 18 := by omega
              rw [hi18] at hv hsm
              rw [HPE.out] at hv
              have hvc := val_clamp_lt hkb
              have hms := mul_small hs0 hs1 hvc.1 hvc.2
              have hr4 := reds_four hms.1 hms.2
              have hmod : reds (s * val (clamp key)) 4 % modulus = acc (val (clamp key)) xs (k + 1) := by
                rw [reds_mod, step_eq, ← HSE.out, ← HMV.out.2.2]
                exact mod_step' _ _ _
              have HNEW := Lib.hid (show 0 ≤ reds (s * val (clamp key)) 4 ∧ reds (s * val (clamp key)) 4 < 2 ^ 130 ∧ reds (s * val (clamp key)) 4 % modulus = acc (val (clamp key)) xs (k + 1) from ⟨hr4.1, hr4.2, hmod⟩)
              have HPLN := Lib.hid hsm.out.1
              have HPB := Lib.hid (hsm.out.bound (by omega))
              have hkc : k + 1 ≤ count xs := by
                have := HP.out
                have := HX.out
                unfold count
                omega
              have hat : Hid ((p : Int) + 16 = ((16 * (k + 1) : Nat) : Int)) := Lib.hid (by have := HP.out; omega)
              clear hi18 hli hi hi0 hmod hr4 hvc HPN HPS HP0 HPE
              go_wp2_with (refine wpList_load_Row (w := wr) rfl 129 _ rfl gp rfl 129 .u32 _ pr 40 57 Tryz.underlying129 info_forty HPLN.out ?_)
              refine (rcarry_any ps _ wr HPLN.out HPB.out hv.out).mono ?_
              rintro e w8 ⟨rfl, hb8⟩
              go_wp2_with fail
              refine (rreduce_any _ w8 hms.1 hms.2).mono ?_
              rintro e w9 ⟨rfl, hb9⟩
              have hb := hb8.trans (hb9.mono hb8.size)
              have b9 := hbl.trans (hb.mono hbl.size)
              have k9 := kr.below hb kr.lt
              have e9 := er.below hb er.lt
              have c9 := cr.below hb cr.lt
              have a9 := ar.below hb ar.lt
              have hdw := HDW.out (reds (s * val (clamp key)) 4)
              have hdl := HDL.out (reds (s * val (clamp key)) 4)
              clear hbl kr er cr ar pr hb8 hb9 hb hms
              go_wp2_with (refine wpList_store_RowTo (w := w9) rfl 129 _ _ rfl ga rfl 129 .u32 _ (digits (reds (s * val (clamp key)) 4) 40) rfl a9 40 info_forty hdl HSLN.out hdw ?_; intro w10 q10 g10 z10)
              go_roundw
              case rel => exact ⟨k + 1, _, hkc, by rw [hat.out], HNEW, b9.grown g10 b9.size (fun r e => by cases e; omega), k9.grown g10 (by intro e; injection e with e; omega), e9.grown g10 (by intro e; injection e with e; omega), c9.grown g10 (by intro e; injection e with e; omega), q10⟩
              case measure => simp [intOf]; omega
    · have hkc : k = count xs := by
        have := HX.out
        unfold count at hk ⊢
        omega
      have hnl : ¬ ((16 * k : Nat) : Int) < (n : Int) := by omega
      have HMV := Lib.hid hm.out
      have hm0 := hm.out.1
      have hm1 := hm.out.2.1
      have hacc : m % modulus = acc (val (clamp key)) xs (count xs) := by rw [← hkc]; exact hm.out.2.2
      have HACC := Lib.hid hacc
      have hdl := HDL.out m
      obtain ⟨p, hp⟩ : ∃ p, 16 * k = p := ⟨_, rfl⟩
      rw [hp] at hnl ⊢
      clear hacc hkc hk hlt hp hm
      go_wp2_with (refine wpList_load_Row (w := wr) rfl 129 _ rfl ga rfl 129 .u32 _ ar 40 57 Tryz.underlying129 info_forty hdl ?_)
      refine (rleast_any m wr hm0 hm1).mono ?_
      rintro e w3 ⟨rfl, hb3⟩
      have b3 := hbl.trans (hb3.mono hbl.size)
      have k3 := kr.below hb3 kr.lt
      have e3 := er.below hb3 er.lt
      have a3 := ar.below hb3 ar.lt
      have hdw2 := HDW.out (m % modulus)
      have hdl2 := HDL.out (m % modulus)
      clear hbl kr er cr ar hb3
      go_wp2_with (refine wpList_store_RowTo (w := w3) rfl 129 _ _ rfl ga rfl 129 .u32 _ (digits (m % modulus) 40) rfl a3 40 info_forty hdl2 hdl hdw2 ?_; intro w4 q4 g4 z4)
      have b4 := b3.grown g4 b3.size (fun r e => by cases e; omega)
      have k4 := k3.grown g4 (by intro e; injection e with e; omega)
      have e4 := e3.grown g4 (by intro e; injection e with e; omega)
      have hmm : 0 ≤ m % modulus ∧ m % modulus < 2 ^ 130 := ⟨Int.emod_nonneg _ (by unfold modulus; omega), by have := Int.emod_lt_of_pos m (show (0 : Int) < modulus by unfold modulus; omega); unfold modulus at this ⊢; omega⟩
      have hvm : val (digits (m % modulus) 40) = m % modulus := by rw [val_digits]; omega
      have hLL : (digits (m % modulus) 40).length = (wideH key).length := by rw [hdl2, wideH_length HK.out]
      have HFL := Lib.hid (show (addB (digits (m % modulus) 40) (wideH key)).length = 40 by rw [addB_length hLL, hdl2])
      have HFB := Lib.hid (addB_bound (digits_bytes 40 (m % modulus)) (wideH_bytes hkb))
      have HFV := Lib.hid (show val (addB (digits (m % modulus) 40) (wideH key)) = m % modulus + val ((key.drop 16).take 16) by rw [val_addB hLL, hvm, wideH_val])
      have HGL := Lib.hid (fun i (hi : i < 16) => show (addB (digits (m % modulus) 40) (wideH key)).getD i 0 = (digits (m % modulus) 40).getD i 0 + key.getD (16 + i) 0 by
        rw [addB_get (by rw [hdl2]; omega) (by rw [wideH_length HK.out]; omega), wideH_get HK.out hi])
      have HGH := Lib.hid (fun j (hj : 16 ≤ j) (hjD : j < (digits (m % modulus) 40).length) => show (addB (digits (m % modulus) 40) (wideH key)).getD j 0 = (digits (m % modulus) 40).getD j 0 by
        rw [addB_get hjD (by rw [wideH_length HK.out, ← hdl2]; exact hjD), wideH_get_hi HK.out hj]
        omega)
      have HDA := Lib.hid (fun i => (digits_bytes 40 (m % modulus)).at_ i)
      have HKA := Lib.hid (fun i => hkb.at_ i)
      have HDX := Lib.hid hdl2
      obtain ⟨D, hD⟩ : ∃ D, digits (m % modulus) 40 = D := ⟨_, rfl⟩
      rw [hD] at q4 HFL HFB HFV HDX
      simp only [hD] at HGL HGH HDA
      clear hD hvm hLL hdl hdl2 hdw2 b3 k3 e3 a3 g4 z4 hmm
      obtain ⟨S, hS⟩ : ∃ S, addB D (wideH key) = S := ⟨_, rfl⟩
      rw [hS] at HFL HFB HFV
      simp only [hS] at HGL HGH
      clear hS
      go_loopw [13] (fun i wr => ∃ q : Nat, q ≤ 16 ∧ i = .int .i64 q ∧ Below w.heap.size w wr ∧ Row wr w.heap.size 22 .u8 key ∧ Row wr gr 58 .u8 (List.replicate 16 0) ∧ Row wr ga 129 .u32 (blend S D q)) (fun i _ => 16 - (intOf i).toNat)
      case atStart => exact ⟨0, by omega, rfl, b4, k4, e4, by rw [blend_zero]; exact q4⟩
      case round =>
        clear b4 k4 e4 q4
        obtain ⟨q, hq, rfl, hbl, kr, er, ar⟩ := hrel
        have hq0 : (0 : Int) ≤ (q : Int) := by omega
        have hLen : S.length = D.length := by rw [HFL.out, HDX.out]
        by_cases hlq : q < 16
        · have hlq' : (q : Int) < 16 := by omega
          have hq40 : (q : Int) < 40 := by omega
          have hqk : (16 : Int) + (q : Int) < 32 := by omega
          have hqD : q < D.length := by rw [HDX.out]; omega
          have ca := ar.cell (i := q) (by rw [blend_length hLen]; exact hqD)
          rw [blend_get hLen hqD] at ca
          have ck := kr.cell (i := 16 + q) (by rw [HK.out]; omega)
          have fa := ar.frozen q
          have hg := HGL.out q hlq
          have hx := HDA.out q
          have hy := HKA.out (16 + q)
          have HS := Lib.hid (show Row (wr.setCell ⟨ga, q, none⟩ (.int .u32 (D.getD q 0 + key.getD (16 + q) 0))) ga 129 .u32 (blend S D (q + 1)) by
            rw [← blend_set hLen hqD, hg]
            exact ar.set q (wf_32 (by omega)))
          have HE := er.other (p := ⟨ga, q, none⟩) (by simp; omega) (.int .u32 (D.getD q 0 + key.getD (16 + q) 0))
          have HE2 := kr.other (p := ⟨ga, q, none⟩) (by simp; omega) (.int .u32 (D.getD q 0 + key.getD (16 + q) 0))
          have HBL := Lib.hid (hbl.setCell (p := ⟨ga, q, none⟩) (by simp; omega) (.int .u32 (D.getD q 0 + key.getD (16 + q) 0)))
          clear hLen hg ar er kr hbl hqD
          generalize D.getD q 0 = x at *
          generalize key.getD (16 + q) 0 = y at *
          have hcv : IntKind.u32.wrap y = y := IntWalk.u32_in _ (by omega)
          have hadd : IntKind.u32.wrap (x + y) = x + y := IntWalk.u32_in _ (by omega)
          have hadd2 : (x + y) % 4294967296 = x + y := by omega
          have hqw : IntKind.i64.wrap ((16 : Int) + (q : Int)) = (16 : Int) + (q : Int) := IntWalk.i64_in _ (by omega)
          have hqn : ((16 : Int) + (q : Int)).toNat = 16 + q := by omega
          have hq160 : (0 : Int) ≤ (16 : Int) + (q : Int) := by omega
          go_wp2_with fail
          go_still_tail 11, (by kernel_rfl)
          change wpList _ _ _ _ _ wr.drew
          go_wp2_with fail
          go_roundw
          case rel => exact ⟨q + 1, by omega, by go_num, HBL.out.drew, HE2, HE, HS.out⟩
          case measure => simp [intOf]; omega
        · have hq16 : q = 16 := by omega
          have hnl2 : ¬ (q : Int) < 16 := by omega
          rw [hq16, blend_rest hLen 16 HGH.out] at ar
          clear hq16 hlq hq hLen
          go_wp2_with (refine wpList_load_Row (w := wr) rfl 129 _ rfl ga rfl 129 .u32 _ ar 40 57 Tryz.underlying129 info_forty HFL.out ?_)
          refine (rcarry_any S _ wr HFL.out (fun z hz => by have := HFB.out z hz; omega) HFV.out).mono ?_
          rintro e w5 ⟨rfl, hb5⟩
          have b5 := hbl.trans (hb5.mono hbl.size)
          have e5 := er.below hb5 er.lt
          have a5 := ar.below hb5 ar.lt
          have hz : poly key xs = digits (m % modulus + val ((key.drop 16).take 16)) 16 := by rw [poly, HACC.out]
          have HZ := Lib.hid hz
          have hwg := fun i (hi : i < 16) => wideD_get (m % modulus + val ((key.drop 16).take 16)) hi
          rw [← hz] at hwg
          have HWG := Lib.hid hwg
          have hdw := HDW.out (m % modulus + val ((key.drop 16).take 16))
          have hdl := HDL.out (m % modulus + val ((key.drop 16).take 16))
          clear hbl kr er ar hb5 hz hwg
          obtain ⟨Z, hZ⟩ : ∃ Z, digits (m % modulus + val ((key.drop 16).take 16)) 40 = Z := ⟨_, rfl⟩
          have HZA := Lib.hid (fun i => (digits_bytes 40 (m % modulus + val ((key.drop 16).take 16))).at_ i)
          simp only [hZ] at HWG HZA
          rw [hZ] at hdw hdl ⊢
          clear hZ HGL HGH HFV
          go_wp2_with (first
            | (refine wpList_store_RowTo (w := w5) rfl 129 _ _ rfl ga rfl 129 .u32 _ Z rfl a5 40 info_forty hdl HFL.out hdw ?_; intro w6 q6 g6 z6)
            | (refine wpList_alloc_Row (w := w6) rfl 58 rfl .u8 16 zero_16b ?_; intro w7 r7 g7 z7))
          obtain ⟨gp, hgp⟩ : ∃ g, w6.heap.size = g := ⟨_, rfl⟩
          have lp := q6.lt
          have b7 := (b5.grown g6 b5.size (fun r e => by cases e; omega)).grown g7 (by have := b5.size; have := g6.size; omega) (by simp)
          have e7 := (e5.grown g6 (by intro e; injection e with e; omega)).grown g7 (by simp)
          have a7 := q6.grown g7 (by simp)
          rw [hgp] at lp r7 ⊢
          have HPL := Lib.hid (poly_length key xs)
          have HPW := Lib.hid (bs_wf (poly_bytes key xs))
          have HZL := Lib.hid hdl
          clear hgp b5 e5 a5 q6 g6 g7 z6 z7 hdw hdl
          obtain ⟨T, hT⟩ : ∃ T, poly key xs = T := ⟨_, rfl⟩
          rw [hT] at HPL HPW
          simp only [hT] at HWG
          have HTE := Lib.hid hT
          clear hT HZ
          go_loopw [15] (fun i wr => ∃ q : Nat, q ≤ 16 ∧ i = .int .i64 q ∧ Below w.heap.size w wr ∧ Row wr gr 58 .u8 (List.replicate 16 0) ∧ Row wr ga 129 .u32 Z ∧ Row wr gp 58 .u8 (blend T (List.replicate 16 0) q)) (fun i _ => 16 - (intOf i).toNat)
          case atStart => exact ⟨0, by omega, rfl, b7, e7, a7, by rw [blend_zero]; exact r7⟩
          case round =>
            clear b7 e7 a7 r7
            obtain ⟨q, hq, rfl, hbl, er, ar, pr⟩ := hrel
            have hq0 : (0 : Int) ≤ (q : Int) := by omega
            have hLen : T.length = (List.replicate 16 (0 : Int)).length := by rw [HPL.out]; simp
            by_cases hlq : q < 16
            · have hlq' : (q : Int) < 16 := by omega
              have hq40 : (q : Int) < 40 := by omega
              have ca := ar.cell (i := q) (by rw [HZL.out]; omega)
              have hset := blend_set hLen (i := q) (by simpa using hlq)
              rw [← HWG.out q hlq] at hset
              have HSET := Lib.hid hset
              have HBL := Lib.hid (show (blend T (List.replicate 16 0) q).length = 16 by rw [blend_length hLen]; simp)
              have hx := HZA.out q
              clear hset hLen
              generalize Z.getD q 0 = x at *
              have hcv : IntKind.u8.wrap x = x := IntWalk.u8_in _ (by omega)
              have hcv2 : x % 256 = x := by omega
              have w0 : (Lit.int .u8 x).wf = true := wf_byte hx
              go_wp2_with (refine wpList_store_elem (w := wr) rfl 5 _ _ rfl gp q rfl 58 .u8 _ x rfl pr (by rw [HBL.out]; exact hlq) info_u8 w0 ?_; intro w8 q8 g8 z8; rw [HSET.out] at q8)
              go_roundw
              case rel => exact ⟨q + 1, by omega, by go_num, hbl.grown g8 hbl.size (fun r e => by cases e; omega), er.grown g8 (by intro e; injection e with e; omega), ar.grown g8 (by intro e; injection e with e; omega), q8⟩
              case measure => simp [intOf]; omega
            · have hq16 : q = 16 := by omega
              have hnl3 : ¬ (q : Int) < 16 := by omega
              have hz : blend T (List.replicate 16 0) 16 = T := blend_all (F := T) (a := List.replicate 16 0) (by rw [HPL.out]; simp)
              rw [hq16, hz] at pr
              clear hz hq16 hlq hq hLen
              go_wp2_with (first
                | (refine wpList_load_Row (w := wr) rfl 58 _ rfl gp rfl 58 .u8 _ pr 16 5 Tryz.underlying58 info_16b HPL.out ?_)
                | (refine wpList_store_RowTo (w := wr) rfl 58 _ _ rfl gr rfl 58 .u8 _ T rfl er 16 info_16b HPL.out (by simp) HPW.out ?_; intro w8 q8 g8 z8))
              refine bodyPost_ret (results_Row rfl _ _ gr _ _ _ rfl q8 16 5 Tryz.underlying58 info_16b HPL.out) rfl ?_
              exact ⟨by rw [HTE.out], hbl.grown g8 hbl.size (fun r e => by cases e; omega)⟩
end Go.Proofs.YtjelacblnjbfgaaGreatDoor.Po
namespace Go.Proofs.YtjelacblnjbfgaaGreatDoor.Ae
open Go.RowKit Go.Shelf Go.Proofs.YtjelacblnjbfgaaGreatDoor Mem Help Go.Proofs.YtjelacblnjbfgaaGreatDoor.Sum Po
attribute [local irreducible] wpList wpListIn
theorem size_32b : (Tryz.prog.info? 22).map (·.size) = some 32 := by kernel_rfl
theorem size_12b : (Tryz.prog.info? 45).map (·.size) = some 12 := by kernel_rfl
theorem _root_.Go.Proofs.YtjelacblnjbfgaaGreatDoor.Mem.Row.wf_at {w : World} {g : Nat} {t : TypeId} {k : IntKind} {zs : List Int} (h : Row w g t k zs) {i : Nat} (hi : i < zs.length) : (Lit.int k (zs.getD i 0)).wf = true := by
  rw [List.getD_eq_getElem?_getD, List.getElem?_eq_getElem hi]
  exact h.1 _ (List.getElem_mem hi)
theorem size_1b : (Tryz.prog.info? 5).map (·.size) = some 1 := by kernel_rfl
theorem zero_32b : (Tryz.prog.info? 22).bind (·.zero) = some (.agg (arr .u8 (List.replicate 32 0))) := by kernel_rfl
set_option maxRecDepth 100000 in
set_option maxHeartbeats 4000000 in
theorem rtag_ae (key nonce : List Int) (B : Nat) (A : Option Addr) (n c : Nat) (xs : List Int) (B2 : Nat) (A2 : Option Addr) (n2 c2 : Nat) (ys : List Int) (w : World) (hk : key.length = 32) (hkb : Bs key) (hnl : nonce.length = 12) (hnb : Bs nonce)
    (h : Ints w .u8 B A n xs) (hB : B ≤ w.heap.size) (hn : n ≤ 274877906944) (h2 : Ints w .u8 B2 A2 n2 ys) (hB2 : B2 ≤ w.heap.size) (hn2 : n2 ≤ 274877906944) :
    Calls Tryz.prog 43 #[.agg (arr .u8 key), .agg (arr .u8 nonce), .slice A n c, .slice A2 n2 c2] w fun e w' => e = .returned (.agg (arr .u8 (aeTag key nonce xs ys))) ∧ Below w.heap.size w w' := by
  have HK := Lib.hid hk
  have HN := Lib.hid hnl
  have HX := Lib.hid h.1
  have HY := Lib.hid h2.1
  clear hk hnl
  go_enter Tryz.func43, Tryz.ntmps43
  go_wp2_with (first
    | (refine wpList_box_Row (w := w) rfl 22 _ rfl .u8 key rfl (bs_wf hkb) ?_; intro w1 r1 g1 z1)
    | (refine wpList_box_Row (w := w1) rfl 45 _ rfl .u8 nonce rfl (bs_wf hnb) ?_; intro w2 r2 g2 z2; have r12 := r1.grown g2 (by simp))
    | (refine wpList_alloc_Row (w := w2) rfl 58 rfl .u8 16 zero_16b ?_; intro w3 r3 g3 z3; have r13 := r12.grown g3 (by simp); have r23 := r2.grown g3 (by simp))
    | (refine wpList_load_Row (w := w3) rfl 22 _ rfl w.heap.size rfl 22 .u8 _ r13 32 5 Tryz.underlying22 size_32b HK.out ?_)
    | (refine wpList_load_Row (w := w3) rfl 45 _ rfl w1.heap.size rfl 45 .u8 _ r23 12 5 Tryz.underlying45 size_12b HN.out ?_))
  obtain ⟨gr, hgr⟩ : ∃ g, w2.heap.size = g := ⟨_, rfl⟩
  have hg0 : w.heap.size < gr := by have := r12.lt; omega
  have b3 : Below w.heap.size w w3 := (((Below.refl _ w).grown g1 (Nat.le_refl _) (by simp)).grown g2 g1.size (by simp)).grown g3 (Nat.le_trans g1.size g2.size) (by simp)
  rw [hgr] at r3 ⊢
  clear hgr r1 r2 r12 r13 r23 g1 g2 g3 z1 z2 z3
  refine (Cha.rblock_any key nonce 0 w3 HK.out hkb HN.out hnb ⟨by omega, by omega⟩).mono ?_
  rintro e w4 ⟨rfl, hb4⟩
  have r4 := r3.below hb4 r3.lt
  have b4 := b3.trans (hb4.mono b3.size)
  have l4 := r4.lt
  clear r3 b3 hb4
  obtain ⟨F, hF⟩ : ∃ F, Cc.block key 0 nonce = F := ⟨_, rfl⟩
  have HFB := Lib.hid (show Bs F by rw [← hF]; exact Cc.block_bytes _ _ _)
  have HFL := Lib.hid (show F.length = 64 by rw [← hF]; exact Cc.block_length _ _ _)
  have HF := Lib.hid hF
  rw [hF]
  clear hF
  go_wp2_with (first
    | (refine wpList_alloc_Row (w := w4) rfl 88 rfl .u8 64 Cha.zero_64 ?_; intro w5 r5 g5 z5)
    | (refine wpList_store_RowTo (w := w5) rfl 88 _ _ rfl w4.heap.size rfl 88 .u8 _ F rfl r5 64 Cha.info_64 HFL.out (by simp) (bs_wf HFB.out) ?_; intro w6 r6 g6 z6)
    | (refine wpList_alloc_Row (w := w6) rfl 22 rfl .u8 32 zero_32b ?_; intro w7 r7 g7 z7))
  obtain ⟨gf, hgf⟩ : ∃ g, w4.heap.size = g := ⟨_, rfl⟩
  obtain ⟨gk, hgk⟩ : ∃ g, w6.heap.size = g := ⟨_, rfl⟩
  have b7 : Below w.heap.size w w7 := (((b4.grown g5 b4.size (by simp)).grown g6 (Nat.le_trans b4.size g5.size) (fun r e => by have := b4.size; cases e; omega)).grown g7 (Nat.le_trans b4.size (Nat.le_trans g5.size g6.size)) (by simp))
  have e7 := ((r4.grown g5 (by simp)).grown g6 (by intro e; injection e with e; omega)).grown g7 (by simp)
  have f7 := r6.grown g7 (by simp)
  have lf := r6.lt
  rw [hgf] at lf f7 l4 ⊢
  rw [hgk] at lf r7 ⊢
  have lk := r7.lt
  clear hgf hgk r4 r5 r6 g5 g6 g7 z5 z6 z7 b4 w5 w6
  obtain ⟨K1, hK1⟩ : ∃ K1, F.take 32 = K1 := ⟨_, rfl⟩
  have HKL : Hid (K1.length = 32) := Lib.hid (by rw [← hK1, List.length_take, HFL.out]; rfl)
  have HKB : Hid (Bs K1) := Lib.hid (fun z hz => HFB.out z (List.mem_of_mem_take (by rw [← hK1] at hz; exact hz)))
  have HKG := Lib.hid (fun q (hq : q < 32) => show K1.getD q 0 = F.getD q 0 by rw [← hK1]; simp [List.getD_eq_getElem?_getD, hq])
  have HK1 := Lib.hid (show K1 = macKey key nonce by rw [← hK1, macKey, HF.out])
  clear hK1
  go_loopw [11] (fun i wr => ∃ q : Nat, q ≤ 32 ∧ i = .int .i64 q ∧ Below w.heap.size w wr ∧ Row wr gr 58 .u8 (List.replicate 16 0) ∧ Row wr gf 88 .u8 F ∧ Row wr gk 22 .u8 (blend K1 (List.replicate 32 0) q)) (fun i _ => 32 - (intOf i).toNat)
  case atStart => exact ⟨0, by omega, rfl, b7, e7, f7, by rw [blend_zero]; exact r7⟩
  case round =>
    clear b7 e7 f7 r7
    obtain ⟨q, hq, rfl, hbl, er, fr, kr⟩ := hrel
    have hq0 : (0 : Int) ≤ (q : Int) := by omega
    have hLen : K1.length = (List.replicate 32 (0 : Int)).length := by rw [HKL.out]; rfl
    by_cases hlq : q < 32
    · have hlq' : (q : Int) < 32 := by omega
      have hq64 : (q : Int) < 64 := by omega
      have cf := fr.cell (i := q) (by rw [HFL.out]; omega)
      have hset := blend_set hLen (i := q) (by simpa using hlq)
      rw [HKG.out q hlq] at hset
      have HSET := Lib.hid hset
      have HBLN := Lib.hid (show q < (blend K1 (List.replicate 32 0) q).length by rw [blend_length hLen]; simpa using hlq)
      have HWF := Lib.hid (show (Lit.int .u8 (F.getD q 0)).wf = true from fr.wf_at (by rw [HFL.out]; omega))
      clear hset hLen hlq
      generalize F.getD q 0 = x at *
      go_wp2_with (refine wpList_store_elem (w := wr) rfl 5 _ _ rfl gk q rfl 22 .u8 _ x rfl kr HBLN.out size_1b HWF.out ?_; intro w8 r8 g8 z8)
      rw [HSET.out] at r8
      have hbz := hbl.grown g8 hbl.size (fun r e => by cases e; omega)
      have er8 := er.grown g8 (by intro e; injection e with e; omega)
      have fr8 := fr.grown g8 (by intro e; injection e with e; omega)
      go_roundw
      case rel => exact ⟨q + 1, by omega, by go_num, hbz, er8, fr8, r8⟩
      case measure => simp [intOf]; omega
    · obtain rfl : q = 32 := by omega
      have hall := blend_all hLen
      have h32 : (List.replicate 32 (0 : Int)).length = 32 := by simp
      rw [h32] at hall
      rw [hall] at kr
      clear hall h32 hLen hlq
      go_wp2_with fail
      have hP1 := padN_lt xs.length
      have hP2 := padN_lt ys.length
      have hL1 : (padL xs).length ≤ 274877906960 := by rw [padL_length, HX.out]; rw [HX.out] at hP1; omega
      have hL2 : (padL ys).length ≤ 274877906960 := by rw [padL_length, HY.out]; rw [HY.out] at hP2; omega
      have HTX := Lib.hid (show text xs ys = padL xs ++ padL ys ++ digits (n : Int) 8 ++ digits (n2 : Int) 8 by rw [text, HX.out, HY.out])
      have hxs := hbl.size
      clear hP1 hP2
      refine (padded_any B A n c xs wr (h.below (hbl.mono hB)) (by omega)).mono ?_
      rintro e w8 ⟨A8, c8, rfl, o8, hb8⟩
      have ys8 := h2.below ((hbl.trans (hb8.mono hbl.size)).mono hB2)
      have kr8 := kr.below hb8 kr.lt
      have er8 := er.below hb8 er.lt
      have b8 := hbl.trans (hb8.mono hbl.size)
      have lr := kr.lt
      have le := er.lt
      have s8 := hb8.size
      clear hb8 kr er fr
      obtain ⟨P1, hPP1⟩ : ∃ P, padL xs = P := ⟨_, rfl⟩
      rw [hPP1] at o8 hL1 HTX ⊢
      obtain ⟨m8, hm8⟩ : ∃ m, P1.length = m := ⟨_, rfl⟩
      have HM8 := Lib.hid hm8
      rw [hm8] at o8 hL1 ⊢
      clear hPP1 hm8
      go_wp2_with fail
      refine (padded_any B2 A2 n2 c2 ys w8 ys8 (by omega)).mono ?_
      rintro e w9 ⟨A9, c9, rfl, o9, hb9⟩
      obtain ⟨P2, hPP2⟩ : ∃ P, padL ys = P := ⟨_, rfl⟩
      rw [hPP2] at o9 hL2 HTX ⊢
      obtain ⟨m9, hm9⟩ : ∃ m, P2.length = m := ⟨_, rfl⟩
      have HM9 := Lib.hid hm9
      rw [hm9] at o9 hL2 ⊢
      clear hPP2
      obtain ⟨_, _, ev, _, _, i9⟩ := o9.form
      rw [hm9] at ev i9
      cases ev
      clear hm9
      have o89 := o8.below (hb9.mono (by omega))
      have kr9 := kr8.below hb9 kr8.lt
      have er9 := er8.below hb9 er8.lt
      have b9 := b8.trans (hb9.mono b8.size)
      have s9 : wr.heap.size ≤ w9.heap.size := Nat.le_trans s8 hb9.size
      clear ys8 kr8 er8 b8 hb9 o8 o9 hbl s8
      go_wp2_with (at_builtin; refine wpList_append_ints w9 rfl _ _ 27 rfl wr.heap.size 5 .u8 1 Tryz.underlying27 info_u8 (.slice A8 m8 c8) P1 rfl o89 w9.heap.size A9 m9 c9 P2 rfl i9 (by rw [HM8.out]; omega) (by omega) s9 ?_; intro va wa oa ga ta)
      have kra := kr9.grown ga (fun e => by have := (o89.2.lt _ e.symm).1; omega)
      have era := er9.grown ga (fun e => by have := (o89.2.lt _ e.symm).1; omega)
      have ba := b9.grown ga b9.size (fun r e => by have := (o89.2.lt r e).1; omega)
      have sa : wr.heap.size ≤ wa.heap.size := Nat.le_trans s9 ga.size
      clear kr9 er9 b9 s9 o89 i9 ga ta
      obtain ⟨Aa, ca, rfl, _, _, _⟩ := oa.form
      obtain ⟨ma, hma⟩ : ∃ m, (P1 ++ P2).length = m := ⟨_, rfl⟩
      have hLa : ma ≤ 549755813920 := by rw [← hma, List.length_append, HM8.out, HM9.out]; omega
      rw [hma] at oa ⊢
      have HMA := Lib.hid hma
      clear hma
      go_wp2_with fail
      refine (eight_any (n : Int) wa (by omega) (by omega)).mono ?_
      rintro e wb ⟨Ab, cb, rfl, ob, hbb⟩
      have ib : Ints wb .u8 wb.heap.size Ab 8 (digits (n : Int) 8) := by
        obtain ⟨_, _, ev, _, _, i⟩ := ob.form
        rw [digits_length] at ev i
        cases ev
        exact i
      have oab := oa.below hbb
      have krb := kra.below hbb kra.lt
      have erb := era.below hbb era.lt
      have bb := ba.trans (hbb.mono ba.size)
      have sb : wr.heap.size ≤ wb.heap.size := Nat.le_trans sa hbb.size
      clear oa kra era ba sa ob hbb
      go_wp2_with (at_builtin; refine wpList_append_ints wb rfl _ _ 27 rfl wr.heap.size 5 .u8 1 Tryz.underlying27 info_u8 (.slice Aa ma ca) (P1 ++ P2) rfl oab wb.heap.size Ab 8 cb (digits (n : Int) 8) rfl ib (by rw [HMA.out]; omega) (by omega) sb ?_; intro vd wd od gd td)
      have krd := krb.grown gd (fun e => by have := (oab.2.lt _ e.symm).1; omega)
      have erd := erb.grown gd (fun e => by have := (oab.2.lt _ e.symm).1; omega)
      have bd := bb.grown gd bb.size (fun r e => by have := (oab.2.lt r e).1; omega)
      have sd : wr.heap.size ≤ wd.heap.size := Nat.le_trans sb gd.size
      clear krb erb bb sb oab ib gd td
      obtain ⟨Ad, cd, rfl, _, _, _⟩ := od.form
      obtain ⟨md, hmd⟩ : ∃ m, (P1 ++ P2 ++ digits (n : Int) 8).length = m := ⟨_, rfl⟩
      have hLd : md ≤ 549755813928 := by rw [← hmd, List.length_append, HMA.out, digits_length]; omega
      rw [hmd] at od ⊢
      have HMD := Lib.hid hmd
      clear hmd
      refine wp_region_held (S := fun W => Row W gk 22 .u8 K1) (by kernel_rfl) ?_
      change wpAnyH _ _ _ _ _ _ _ _ wd.drew
      have k0 : Row wd.drew gk 22 .u8 K1 := krd.drewN 1
      have e0 : Row wd.drew gr 58 .u8 (List.replicate 16 0) := erd.drewN 1
      have b0 : Below w.heap.size w wd.drew := bd.drew
      have o0 : Mem.Own wd.drew wr.heap.size 5 .u8 (.slice Ad md cd) (P1 ++ P2 ++ digits (n : Int) 8) := od.drewN 1
      have s0 : wr.heap.size ≤ wd.drew.heap.size := sd
      clear krd erd bd od sd
      refine Held.tk (v := .agg (arr .u8 K1)) 0 (some 35) rfl (Held.y_load_Row (zs := K1) rfl rfl Tryz.underlying22 size_32b HKL.out (fun W hW => hW)) k0 ?_
      simp only [Act.put, Z1, Z2, Z3]
      refine Held.tk (v := .slice Ad md cd) 1 (some 36) rfl (Held.y_move rfl rfl) k0 ?_
      simp only [Act.put, Z1, Z2, Z3]
      refine Held.tk (v := .slice A2 n2 c2) 2 (some 37) rfl (Held.y_move rfl rfl) k0 ?_
      simp only [Act.put, Z1, Z2, Z3]
      refine Held.tk (v := .int .i64 (n2 : Int)) 3 (some 38) rfl (Held.y_len rfl rfl (by kernel_rfl)) k0 ?_
      simp only [Act.put, Z1, Z2, Z3]
      refine Held.one 4 (by kernel_rfl) ?_
      refine Held.op_call 4 (some 39) 65 #[.int .i64 (n2 : Int)] rfl rfl rfl rfl (enters_of Tryz.func65 (by kernel_rfl) rfl) (by simp [Act.eval]) (eight_any (n2 : Int) wd.drew (by omega) (by omega)) ?_
      rintro e we ⟨Ae, ce, rfl, oe, be⟩
      have ie : Ints we .u8 we.heap.size Ae 8 (digits (n2 : Int) 8) := by
        obtain ⟨_, _, ev, _, _, i⟩ := oe.form
        rw [digits_length] at ev i
        cases ev
        exact i
      have k1 := k0.below be k0.lt
      have e1 := e0.below be e0.lt
      have b1 := b0.trans (be.mono b0.size)
      have o1 := o0.below be
      have s1 : wr.heap.size ≤ we.heap.size := Nat.le_trans s0 be.size
      clear k0 e0 b0 o0 s0 be oe
      refine ⟨_, rfl, k1, ?_⟩
      simp only [Act.put, Z1, Z2, Z3]
      refine Held.one 5 (by kernel_rfl) ?_
      refine Held.op_append_ints 5 (some 40) 27 rfl rfl rfl rfl wr.heap.size 5 .u8 1 Tryz.underlying27 info_u8 (.slice Ad md cd) (P1 ++ P2 ++ digits (n : Int) 8) rfl o1 we.heap.size Ae 8 ce (digits (n2 : Int) 8) rfl ie (by rw [HMD.out]; omega) (by omega) s1 ?_
      intro Af mf cf wf of gf' _ _ HMF jf
      have k2 := k1.grown gf' (fun e => by have := (o1.2.lt _ e.symm).1; omega)
      have e2 := e1.grown gf' (fun e => by have := (o1.2.lt _ e.symm).1; omega)
      have b2 := b1.grown gf' b1.size (fun r e => by have := (o1.2.lt r e).1; omega)
      have hmf : mf ≤ 549755813936 := by rw [← HMF.out, List.length_append, HMD.out, digits_length]; omega
      clear k1 e1 b1 s1 ie gf' of o1
      rw [← HTX.out] at jf HMF
      refine ⟨k2, ?_⟩
      simp only [Act.put, Z1, Z2, Z3]
      refine Held.one 6 (by kernel_rfl) ?_
      refine Held.op_call 6 (some 41) 66 #[.agg (arr .u8 K1), .slice Af mf cf] rfl rfl rfl rfl (enters_of Tryz.func66 (by kernel_rfl) rfl) (by simp [Act.eval]) (rtag_any K1 wf.heap.size Af mf cf (text xs ys) wf HKL.out HKB.out jf (Cha.bs_of_ints jf) (Nat.le_refl _) (by omega)) ?_
      rintro e wg ⟨rfl, bg⟩
      have k3 := k2.below bg k2.lt
      have e3 := e2.below bg e2.lt
      have b3 := b2.trans (bg.mono b2.size)
      clear k2 e2 b2 bg
      refine ⟨_, rfl, k3, ?_⟩
      simp only [Act.put, Z1, Z2, Z3]
      refine Held.one 7 (by kernel_rfl) ?_
      have HPL := Lib.hid (poly_length K1 (text xs ys))
      refine Held.op_store_Row 7 none 58 gr 58 .u8 _ (poly K1 (text xs ys)) rfl rfl rfl rfl rfl rfl e3 16 info_16b HPL.out (by simp) ?_
      have e4 := e3.setRow (bs_wf (poly_bytes K1 (text xs ys)))
      have g4 := grown_setRow wg gr (arr .u8 (poly K1 (text xs ys)))
      have k4 := k3.grown g4 (by intro e; injection e with e; omega)
      have b4 := b3.grown g4 b3.size (fun r e => by cases e; omega)
      generalize wg.setRow gr (arr .u8 (poly K1 (text xs ys))) = wh at *
      clear e3 k3 b3 g4
      refine ⟨k4, ?_⟩
      simp only [Act.put]
      refine wpAnyH_done (by kernel_rfl) ?_ _
      go_wp2_with fail
      refine bodyPost_ret (results_Row rfl _ _ gr _ _ _ rfl e4 16 5 Tryz.underlying58 info_16b HPL.out) rfl ?_
      exact ⟨by rw [aeTag, HK1.out], b4⟩
end Go.Proofs.YtjelacblnjbfgaaGreatDoor.Ae
namespace Go.Proofs.YtjelacblnjbfgaaGreatDoor.Ae
open Go.RowKit Go.Shelf Go.Proofs.YtjelacblnjbfgaaGreatDoor Mem Help Go.Proofs.YtjelacblnjbfgaaGreatDoor.Sum Po
attribute [local irreducible] wpList wpListIn
end Go.Proofs.YtjelacblnjbfgaaGreatDoor.Ae
