/-
  The document's own Tag by its contract: the tag is the one that the standard's own words say. Conditions: a key of 32 bytes, at most 2^40 bytes.
-/
import Derived.Test.YtebkicikpeicmaaDoorPr3
import Derived.Test.YtebkicikpeicmaaDoorPo5
namespace Go.Proofs.YtebkicikpeicmaaDoor.Po
open Go.RowKit Go.Shelf Go.Proofs.YtebkicikpeicmaaDoor.Mem Go.Proofs.YtebkicikpeicmaaDoor.Sum
set_option linter.unusedVariables false
attribute [local irreducible] wpList wpListIn

/-- the lesser of two numbers, the caller says which -/
theorem wpList_min {P : Program} {ops : Array Oper} {rest : List Oper} {o : Oper} {a : Act} {w : World} {Q : Exit → Act → World → Prop} (hgd : o.guard = none) (x y : Operand) (ts : Array TypeId) (ho : o.op = .call { callee := .builtin .min, args := #[x, y], argTypes := ts }) (k : IntKind) (u v r : Int) (hx : a.eval x = .int k u) (hy : a.eval y = .int k v)
    (hr : (if v < u then v else u) = r) (h : wpList P ops Q rest (a.put o.dst (.int k r)) w) : wpList P ops Q (o :: rest) a w := by
  refine wpList_plain hgd fun K hK => ?_
  unfold Oper.wp execOp
  simp [ho, resolve, invoke, builtin, hx, hy, run_min_int2, hr]
  exact hK _ _ h
theorem mod_step' (a v r : Int) : (a + v) * r % modulus = (a % modulus + v) * r % modulus := by
  have h := Int.mul_ediv_add_emod a modulus
  generalize a / modulus = q at h
  generalize a % modulus = s at h ⊢
  have e : (a + v) * r = (s + v) * r + modulus * (q * r) := by rw [← h]; grind
  rw [e, Int.add_mul_emod_self_left]
theorem wideD_get (n : Int) {i : Nat} (hi : i < 16) : (digits n 40).getD i 0 = (digits n 16).getD i 0 := by rw [digits_get 40 n i (by omega), digits_get 16 n i hi]
theorem bytes32' {xs : List Int} {B : Int} (h : ∀ x ∈ xs, 0 ≤ x ∧ x < B) (hB : B ≤ 4294967296) : ∀ z ∈ xs, (Lit.int .u32 z).wf = true := fun z hz => wf_32 (by have := h z hz; omega)

set_option maxRecDepth 100000 in
set_option maxHeartbeats 4000000 in
theorem rtag_any (key : List Int) (B : Nat) (A : Option Addr) (n c : Nat) (xs : List Int) (w : World) (hk : key.length = 32) (hkb : Bs key) (h : Ints w .u8 B A n xs) (hxb : Bs xs) (hB : B ≤ w.heap.size) (hn : n ≤ 1099511627776) :
    Calls Tryd.prog 12 #[.agg (arr .u8 key), .slice A n c] w fun e w' => e = .returned (.agg (arr .u8 (poly key xs))) ∧ Below w.heap.size w w' := by
  have HK := Lib.hid hk
  have HX := Lib.hid h.1
  have HDW := Lib.hid (fun m : Int => bytes32 (digits_bytes 40 m))
  have HDL := Lib.hid (fun m : Int => digits_length 40 m)
  have HCL := Lib.hid (clamp_length key)
  have HCW := Lib.hid (bs_wf (clamp_bytes hkb))
  have hni : (n : Int) ≤ 1099511627776 := by omega
  clear hk
  go_enter Tryd.func12, Tryd.ntmps12
  go_wp2_with (first
    | (refine wpList_box_Row (w := w) rfl 22 _ rfl .u8 key rfl (bs_wf hkb) ?_; intro w1 r1 g1 z1)
    | (refine wpList_alloc_Row (w := w1) rfl 27 rfl .u8 16 zero_16b ?_; intro w2 r2 g2 z2; have p2 := r1.grown g2 (by simp))
    | (refine wpList_load_Row (w := w2) rfl 22 _ rfl w.heap.size rfl 22 .u8 _ p2 32 5 Tryd.underlying22 (by kernel_rfl) HK.out ?_))
  obtain ⟨gr, hgr⟩ : ∃ g, w1.heap.size = g := ⟨_, rfl⟩
  have l1 := r1.lt
  have b2 : Below w.heap.size w w2 := ((Below.refl _ w).grown g1 (Nat.le_refl _) (by simp)).grown g2 g1.size (by simp)
  rw [hgr] at l1 r2 ⊢
  clear hgr r1 g1 g2 z1 z2 w1
  refine (rclamp_any key w2 HK.out hkb).mono ?_
  rintro e w3 ⟨rfl, hb3⟩
  have k3 := p2.below hb3 p2.lt
  have e3 := r2.below hb3 r2.lt
  have b3 := b2.trans (hb3.mono b2.size)
  have l3 := e3.lt
  clear p2 r2 b2 hb3 w2
  go_wp2_with (first
    | (refine wpList_alloc_Row (w := w3) rfl 27 rfl .u8 16 zero_16b ?_; intro w4 r4 g4 z4)
    | (refine wpList_store_RowTo (w := w4) rfl 27 _ _ rfl w3.heap.size rfl 27 .u8 _ (clamp key) rfl r4 16 info_16b HCL.out (by simp) HCW.out ?_; intro w5 r5 g5 z5)
    | (refine wpList_alloc_Row (w := w5) rfl 55 rfl .u32 40 zero_forty ?_; intro w6 r6 g6 z6))
  obtain ⟨gc, hgc⟩ : ∃ g, w3.heap.size = g := ⟨_, rfl⟩
  obtain ⟨ga, hga⟩ : ∃ g, w5.heap.size = g := ⟨_, rfl⟩
  have l5 := r5.lt
  rw [hgc] at l3 r5 l5 ⊢
  rw [hga] at l5 r6 ⊢
  have b6 : Below w.heap.size w w6 := ((b3.grown g4 b3.size (by simp)).grown g5 (by have := b3.size; have := g4.size; omega) (fun r e => by have := b3.size; cases e; omega)).grown g6 (by have := b3.size; have := g4.size; have := g5.size; omega) (by simp)
  have k6 := ((k3.grown g4 (by simp)).grown g5 (by intro e; injection e with e; omega)).grown g6 (by simp)
  have e6 := ((e3.grown g4 (by simp)).grown g5 (by intro e; injection e with e; omega)).grown g6 (by simp)
  have c6 := r5.grown g6 (by simp)
  have hz40 : List.replicate 40 (0 : Int) = digits 0 40 := by decide
  rw [hz40] at r6
  clear hgc hga r4 r5 g4 g5 g6 z4 z5 z6 k3 e3 b3 hz40 w3 w4 w5
  go_loopw [7] (fun i wr => ∃ (k : Nat) (m : Int), k ≤ count xs ∧ i = .int .i64 ((16 * k : Nat) : Int) ∧ Hid (0 ≤ m ∧ m < 2 ^ 130 ∧ m % modulus = acc (val (clamp key)) xs k) ∧ Below w.heap.size w wr ∧ Row wr w.heap.size 22 .u8 key ∧ Row wr gr 27 .u8 (List.replicate 16 0) ∧ Row wr gc 27 .u8 (clamp key) ∧ Row wr ga 55 .u32 (digits m 40)) (fun i _ => n - (intOf i).toNat)
  case atStart => exact ⟨0, 0, by omega, rfl, Lib.hid ⟨by omega, by omega, by simp [acc]⟩, b6, k6, e6, c6, r6⟩
  case round =>
    clear b6 k6 e6 c6 r6
    obtain ⟨k, m, hk, rfl, hm, hbl, kr, er, cr, ar⟩ := hrel
    by_cases hlt : 16 * k < n
    · have hlt' : ((16 * k : Nat) : Int) < (n : Int) := by omega
      have hk0 : (0 : Int) ≤ ((16 * k : Nat) : Int) := by omega
      obtain ⟨p, hp⟩ : ∃ p, 16 * k = p := ⟨_, rfl⟩
      rw [hp] at hlt' hk0 hlt ⊢
      obtain ⟨cl, hcl⟩ : ∃ cl, (chunk xs k).length = cl := ⟨_, rfl⟩
      have hcl2 : cl = min 16 (n - p) := by rw [← hcl, chunk_length, HX.out, hp]
      have hmin : (if (n : Int) - (p : Int) < 16 then (n : Int) - (p : Int) else 16) = (cl : Int) := by split <;> omega
      have HP := Lib.hid hp
      have HCLE := Lib.hid hcl
      have HMIN := Lib.hid hmin
      have hcl16 : cl ≤ 16 := by omega
      have hcl0 : 0 < cl := by omega
      have hcln : p + cl ≤ n := by omega
      clear hp hcl hmin hcl2
      go_wp2_with (refine wpList_min rfl _ _ _ rfl .i64 16 ((n : Int) - (p : Int)) (cl : Int) rfl rfl HMIN.out ?_)
      -- the piece is added
      have HMV := Lib.hid hm.out
      have HDM := Lib.hid (digits_bytes 40 m)
      have HVM := Lib.hid (show val (digits m 40) = m by rw [val_digits]; have := hm.out; omega)
      have HDML := HDL.out m
      generalize digits m 40 = D at *
      have hLL : D.length = (wideP xs k).length := by rw [HDML, wideP_length]
      have HFL := Lib.hid (show (addB D (wideP xs k)).length = D.length from addB_length hLL)
      have HFB := Lib.hid (addB_bound HDM.out (wideP_bytes hxb k))
      have HFV := Lib.hid (show val (addB D (wideP xs k)) = m + val (pieceAt xs k) by rw [val_addB hLL, HVM.out, wideP_val])
      have HGL := Lib.hid (fun i (hi : i < cl) => show (addB D (wideP xs k)).getD i 0 = D.getD i 0 + xs.getD (p + i) 0 by
        rw [addB_get (by omega) (by rw [wideP_length]; omega), wideP_get_lo xs k (by rw [HCLE.out]; exact hi), HP.out])
      have HGA := Lib.hid (show (addB D (wideP xs k)).getD cl 0 = D.getD cl 0 + 1 by
        rw [addB_get (by omega) (by rw [wideP_length]; omega)]
        have := wideP_get_at xs k
        rw [HCLE.out] at this
        rw [this])
      have HGH := Lib.hid (fun j (hj : cl + 1 ≤ j) (hjD : j < D.length) => show (addB D (wideP xs k)).getD j 0 = D.getD j 0 by
        rw [addB_get hjD (by rw [wideP_length]; omega), wideP_get_hi xs k (by rw [HCLE.out]; omega)]
        omega)
      have HDA := Lib.hid (fun i => HDM.out.at_ i)
      have HXA := Lib.hid (fun i => hxb.at_ i)
      have HDX := Lib.hid HDML
      clear HDML hLL
      generalize addB D (wideP xs k) = S at *
      go_loopw [9] (fun i wr => ∃ q : Nat, q ≤ cl ∧ i = .int .i64 q ∧ Below w.heap.size w wr ∧ Row wr w.heap.size 22 .u8 key ∧ Row wr gr 27 .u8 (List.replicate 16 0) ∧ Row wr gc 27 .u8 (clamp key) ∧ Row wr ga 55 .u32 (blend S D q)) (fun i _ => cl - (intOf i).toNat)
      case atStart => exact ⟨0, by omega, rfl, hbl, kr, er, cr, by rw [blend_zero]; exact ar⟩
      case round =>
        clear hbl kr er cr ar
        obtain ⟨q, hq, rfl, hbl, kr, er, cr, ar⟩ := hrel
        have hq0 : (0 : Int) ≤ (q : Int) := by omega
        by_cases hlq : q < cl
        · have hlq' : (q : Int) < (cl : Int) := by omega
          have hq40 : (q : Int) < 40 := by omega
          have hLen : S.length = D.length := HFL.out
          have hqD : q < D.length := by rw [HDX.out]; omega
          have ca := ar.cell (i := q) (by rw [blend_length hLen]; exact hqD)
          rw [blend_get hLen hqD] at ca
          obtain ⟨bb, off, rfl, hbB, hcc⟩ := h.2.2 (by omega)
          have ct := (hbl.cell (p := ⟨bb, off + (p + q), none⟩) (by simp; omega)).trans (hcc (p + q) (by omega))
          have fa := ar.frozen q
          have hg := HGL.out q hlq
          have hx := HDA.out q
          have hy := HXA.out (p + q)
          have hpq : ((p : Int) + (q : Int)) < (n : Int) := by omega
          have hpq0 : (0 : Int) ≤ (p : Int) + (q : Int) := by omega
          have hpqw : IntKind.i64.wrap ((p : Int) + (q : Int)) = (p : Int) + (q : Int) := IntWalk.i64_in _ (by omega)
          have hpqn : ((p : Int) + (q : Int)).toNat = p + q := by omega
          have HS := Lib.hid (show Row (wr.setCell ⟨ga, q, none⟩ (.int .u32 (D.getD q 0 + xs.getD (p + q) 0))) ga 55 .u32 (blend S D (q + 1)) by
            rw [← blend_set hLen hqD, hg]
            exact ar.set q (wf_32 (by omega)))
          have HE := er.other (p := ⟨ga, q, none⟩) (by simp; omega) (.int .u32 (D.getD q 0 + xs.getD (p + q) 0))
          have HE2 := kr.other (p := ⟨ga, q, none⟩) (by simp; omega) (.int .u32 (D.getD q 0 + xs.getD (p + q) 0))
          have HE3 := cr.other (p := ⟨ga, q, none⟩) (by simp; omega) (.int .u32 (D.getD q 0 + xs.getD (p + q) 0))
          have HBL := Lib.hid (hbl.setCell (p := ⟨ga, q, none⟩) (by simp; omega) (.int .u32 (D.getD q 0 + xs.getD (p + q) 0)))
          clear hLen hg ar er kr cr hbl hqD
          generalize D.getD q 0 = x at *
          generalize xs.getD (p + q) 0 = y at *
          have hcv : IntKind.u32.wrap y = y := IntWalk.u32_in _ (by omega)
          have hadd : IntKind.u32.wrap (x + y) = x + y := IntWalk.u32_in _ (by omega)
          have hadd2 : (x + y) % 4294967296 = x + y := by omega
          go_wp2_with fail
          go_still_tail 13, (by kernel_rfl)
          change wpList _ _ _ _ _ wr.drew
          go_wp2_with fail
          go_roundw
          case rel => exact ⟨q + 1, by omega, by go_num, HBL.out.drew, HE2, HE, HE3, HS.out⟩
          case measure => simp [intOf]; omega
        · obtain rfl : q = cl := by omega
          have hLen : S.length = D.length := HFL.out
          have hqD : q < D.length := by rw [HDX.out]; omega
          have ca := ar.cell (i := q) (by rw [blend_length hLen]; exact hqD)
          rw [blend_get hLen hqD] at ca
          have hx := HDA.out q
          have hset := blend_set hLen hqD
          rw [HGA.out, blend_rest hLen (q + 1) HGH.out] at hset
          have HSET := Lib.hid hset
          have HBL40 := Lib.hid (show (blend S D q).length = 40 by rw [blend_length hLen, HDX.out])
          have HSL := Lib.hid (show S.length = 40 by rw [hLen, HDX.out])
          have hvp := val_chunk_lt hxb k
          rw [← val_pieceAt] at hvp
          have hms := HMV.out
          obtain ⟨s, hs⟩ : ∃ s, m + val (pieceAt xs k) = s := ⟨_, rfl⟩
          have hs0 : 0 ≤ s := by omega
          have hs1 : s < 2 ^ 131 := by omega
          have HSE := Lib.hid hs
          have HFV' := Lib.hid (show val S = s by rw [HFV.out, hs])
          clear hset hLen hqD hlq hvp hms hs
          generalize D.getD q 0 = x at *
          have hadd : IntKind.u32.wrap (x + 1) = x + 1 := IntWalk.u32_in _ (by omega)
          have hadd2 : (x + 1) % 4294967296 = x + 1 := by omega
          have w0 : (Lit.int .u32 (x + 1)).wf = true := wf_32 (by omega)
          have hq40 : (q : Int) < 40 := by omega
          go_wp2_with (first
            | (refine wpList_store_elem (w := wr) rfl 53 _ _ rfl ga q rfl 55 .u32 _ (x + 1) rfl ar (by rw [HBL40.out]; omega) info_u32 w0 ?_; intro w4 q4 g4 z4; rw [HSET.out] at q4)
            | (refine wpList_load_Row (w := w4) rfl 55 _ rfl ga rfl 55 .u32 _ q4 40 53 Tryd.underlying55 info_forty HSL.out ?_))
          have b4 := hbl.grown g4 hbl.size (fun r e => by cases e; omega)
          have k4 := kr.grown g4 (by intro e; injection e with e; omega)
          have e4 := er.grown g4 (by intro e; injection e with e; omega)
          have c4 := cr.grown g4 (by intro e; injection e with e; omega)
          clear hbl kr er cr ar g4 z4 ca hadd hadd2 w0
          refine (rcarry_any S s w4 HSL.out (fun z hz => by have := HFB.out z hz; omega) HFV'.out).mono ?_
          rintro e w5 ⟨rfl, hb5⟩
          have b5 := b4.trans (hb5.mono b4.size)
          have k5 := k4.below hb5 k4.lt
          have e5 := e4.below hb5 e4.lt
          have c5 := c4.below hb5 c4.lt
          have q5 := q4.below hb5 q4.lt
          have hdw := HDW.out s
          have hdl := HDL.out s
          clear b4 k4 e4 c4 q4 hb5
          go_wp2_with (first
            | (refine wpList_store_RowTo (w := w5) rfl 55 _ _ rfl ga rfl 55 .u32 _ (digits s 40) rfl q5 40 info_forty hdl HSL.out hdw ?_; intro w6 q6 g6 z6)
            | (refine wpList_alloc_Row (w := w6) rfl 55 rfl .u32 40 zero_forty ?_; intro w7 r7 g7 z7))
          obtain ⟨gp, hgp⟩ : ∃ g, w6.heap.size = g := ⟨_, rfl⟩
          have lp := q6.lt
          have b7 := (b5.grown g6 b5.size (fun r e => by cases e; omega)).grown g7 (by have := b5.size; have := g6.size; omega) (by simp)
          have k7 := (k5.grown g6 (by intro e; injection e with e; omega)).grown g7 (by simp)
          have e7 := (e5.grown g6 (by intro e; injection e with e; omega)).grown g7 (by simp)
          have c7 := (c5.grown g6 (by intro e; injection e with e; omega)).grown g7 (by simp)
          have a7 := q6.grown g7 (by simp)
          rw [hgp] at lp r7 ⊢
          have HSD := Lib.hid (digits_bytes 40 s)
          have HSA := Lib.hid (fun i => (digits_bytes 40 s).at_ i)
          have HCA := Lib.hid (fun i => (clamp_bytes hkb).at_ i)
          have HPE := Lib.hid (prod_end (clamp key) hs0 (show s < 256 ^ 18 by omega))
          have HPN := Lib.hid (fun i (hi : i < 18) => show prod (digits s 40) (clamp key) i 16 = prod (digits s 40) (clamp key) (i + 1) 0 from by
            have := prod_next (s := digits s 40) (c := clamp key) (i := i) (by rw [hdl]; omega)
            rwa [clamp_length] at this)
          have HPS := Lib.hid (fun i j (hj : j < 16) => prod_step (s := digits s 40) (c := clamp key) i (j := j) (by rw [clamp_length]; exact hj))
          have HP0 := Lib.hid (prod_start (digits s 40) (clamp key))
          have HSLN := Lib.hid hdl
          clear hgp b5 k5 e5 c5 q5 q6 g6 g7 z6 z7 hdw hdl
          obtain ⟨E, hE⟩ : ∃ E, digits s 40 = E := ⟨_, rfl⟩
          rw [hE] at a7 HSD HSA HPE HP0 HSLN
          simp only [hE] at HPN HPS
          clear hE
          go_loopw [11] (fun i wr => ∃ (i' : Nat) (ps : List Int), i' ≤ 18 ∧ i = .int .i64 i' ∧ Hid (val ps = prod E (clamp key) i' 0) ∧ Hid (Small ps i' 0) ∧ Below w.heap.size w wr ∧ Row wr w.heap.size 22 .u8 key ∧ Row wr gr 27 .u8 (List.replicate 16 0) ∧ Row wr gc 27 .u8 (clamp key) ∧ Row wr ga 55 .u32 E ∧ Row wr gp 55 .u32 ps) (fun i _ => 18 - (intOf i).toNat)
          case atStart => exact ⟨0, _, by omega, rfl, Lib.hid (by rw [HP0.out, val_zeros]), Lib.hid small_start, b7, k7, e7, c7, a7, r7⟩
          case round =>
            clear b7 k7 e7 c7 a7 r7
            obtain ⟨i, ps, hi, rfl, hv, hsm, hbl, kr, er, cr, ar, pr⟩ := hrel
            have hi0 : (0 : Int) ≤ (i : Int) := by omega
            by_cases hli : i < 18
            · have hli' : (i : Int) < 18 := by omega
              go_wp2_with fail
              go_loopw [12] (fun j wr => ∃ (j' : Nat) (ps : List Int), j' ≤ 16 ∧ j = .int .i64 j' ∧ Hid (val ps = prod E (clamp key) i j') ∧ Hid (Small ps i j') ∧ Below w.heap.size w wr ∧ Row wr w.heap.size 22 .u8 key ∧ Row wr gr 27 .u8 (List.replicate 16 0) ∧ Row wr gc 27 .u8 (clamp key) ∧ Row wr ga 55 .u32 E ∧ Row wr gp 55 .u32 ps) (fun j _ => 16 - (intOf j).toNat)
              case atStart => exact ⟨0, ps, by omega, rfl, hv, hsm, hbl, kr, er, cr, ar, pr⟩
              case round =>
                clear hbl kr er cr ar pr hv hsm
                obtain ⟨j, qs, hj, rfl, hv, hsm, hbl, kr, er, cr, ar, pr⟩ := hrel
                have hj0 : (0 : Int) ≤ (j : Int) := by omega
                by_cases hlj : j < 16
                · have hlj' : (j : Int) < 16 := by omega
                  have hij : i + j < qs.length := by rw [hsm.out.1]; omega
                  have cp := pr.cell (i := i + j) hij
                  have ca := ar.cell (i := i) (by rw [HSLN.out]; omega)
                  have cc := cr.cell (i := j) (by rw [HCL.out]; exact hlj)
                  have fp := pr.frozen (i + j)
                  have hx := HSA.out i
                  have hy := HCA.out j
                  have hz := hsm.out.2.1 (i + j)
                  have hxy := byte_mul hx hy
                  have hset := val_set qs (i + j) (qs.getD (i + j) 0 + E.getD i 0 * (clamp key).getD j 0) hij
                  have HV := Lib.hid (show val (qs.set (i + j) (qs.getD (i + j) 0 + E.getD i 0 * (clamp key).getD j 0)) = prod E (clamp key) i (j + 1) by
                    rw [hset, HPS.out i j hlj, hv.out, (fun a b => by omega : ∀ a b : Int, a + b - a = b)])
                  have HSM := Lib.hid (hsm.out.step (by omega) hxy)
                  have HS := Lib.hid (show Row (wr.setCell ⟨gp, i + j, none⟩ (.int .u32 (qs.getD (i + j) 0 + E.getD i 0 * (clamp key).getD j 0))) gp 55 .u32 (qs.set (i + j) (qs.getD (i + j) 0 + E.getD i 0 * (clamp key).getD j 0)) from pr.set (i + j) (wf_32 (by omega)))
                  have HE := er.other (p := ⟨gp, i + j, none⟩) (by simp; omega) (.int .u32 (qs.getD (i + j) 0 + E.getD i 0 * (clamp key).getD j 0))
                  have HE2 := kr.other (p := ⟨gp, i + j, none⟩) (by simp; omega) (.int .u32 (qs.getD (i + j) 0 + E.getD i 0 * (clamp key).getD j 0))
                  have HE3 := cr.other (p := ⟨gp, i + j, none⟩) (by simp; omega) (.int .u32 (qs.getD (i + j) 0 + E.getD i 0 * (clamp key).getD j 0))
                  have HE4 := ar.other (p := ⟨gp, i + j, none⟩) (by simp; omega) (.int .u32 (qs.getD (i + j) 0 + E.getD i 0 * (clamp key).getD j 0))
                  have HBL := Lib.hid (hbl.setCell (p := ⟨gp, i + j, none⟩) (by simp; omega) (.int .u32 (qs.getD (i + j) 0 + E.getD i 0 * (clamp key).getD j 0)))
                  clear hset er kr cr ar pr hbl hij
                  generalize qs.getD (i + j) 0 = z at *
                  generalize E.getD i 0 = x at *
                  generalize (clamp key).getD j 0 = y at *
                  have hcv : IntKind.u32.wrap y = y := IntWalk.u32_in _ (by omega)
                  have hmul : IntKind.u32.wrap (x * y) = x * y := IntWalk.u32_in _ (by omega)
                  have hadd : IntKind.u32.wrap (z + x * y) = z + x * y := IntWalk.u32_in _ (by omega)
                  have hadd2 : (z + x * y) % 4294967296 = z + x * y := by omega
                  have hmul2 : (x * y) % 4294967296 = x * y := by omega
                  have hijw : IntKind.i64.wrap ((i : Int) + (j : Int)) = (i : Int) + (j : Int) := IntWalk.i64_in _ (by omega)
                  have hij40 : (i : Int) + (j : Int) < 40 := by omega
                  have hij0 : (0 : Int) ≤ (i : Int) + (j : Int) := by omega
                  have hi40 : (i : Int) < 40 := by omega
                  have hijn : ((i : Int) + (j : Int)).toNat = i + j := by omega
                  go_wp2_with fail
                  go_still_tail 18, (by kernel_rfl)
                  change wpList _ _ _ _ _ wr.drew
                  go_wp2_with fail
                  go_roundw
                  case rel => exact ⟨j + 1, _, by omega, by go_num, HV, HSM, HBL.out.drew, HE2, HE, HE3, HE4, HS.out⟩
                  case measure => simp [intOf]; omega
                · obtain rfl : j = 16 := by omega
                  rw [HPN.out i hli] at hv
                  go_wp2_with fail
                  go_roundw
                  case rel => exact ⟨i + 1, qs, by omega, by go_num, hv, Lib.hid hsm.out.next, hbl, kr, er, cr, ar, pr⟩
                  case measure => simp [intOf]; omega
            · have hi18 : i = 18 := by omega
              have hnl : ¬ (i : Int) < 18 := by omega
              rw [hi18] at hv hsm
              rw [HPE.out] at hv
              have hvc := val_clamp_lt hkb
              have hms := mul_small hs0 hs1 hvc.1 hvc.2
              have hr4 := reds_four hms.1 hms.2
              have hmod : reds (s * val (clamp key)) 4 % modulus = acc (val (clamp key)) xs (k + 1) := by
                rw [reds_mod, step_eq, ← HSE.out, ← HMV.out.2.2]
                exact mod_step' _ _ _
              have HNEW := Lib.hid (show 0 ≤ reds (s * val (clamp key)) 4 ∧ reds (s * val (clamp key)) 4 < 2 ^ 130 ∧ reds (s * val (clamp key)) 4 % modulus = acc (val (clamp key)) xs (k + 1) from ⟨hr4.1, hr4.2, hmod⟩)
              have HPLN := Lib.hid hsm.out.1
              have HPB := Lib.hid (hsm.out.bound (by omega))
              have hkc : k + 1 ≤ count xs := by
                have := HP.out
                have := HX.out
                unfold count
                omega
              have hat : Hid ((p : Int) + 16 = ((16 * (k + 1) : Nat) : Int)) := Lib.hid (by have := HP.out; omega)
              clear hi18 hli hi hi0 hmod hr4 hvc HPN HPS HP0 HPE
              go_wp2_with (refine wpList_load_Row (w := wr) rfl 55 _ rfl gp rfl 55 .u32 _ pr 40 53 Tryd.underlying55 info_forty HPLN.out ?_)
              refine (rcarry_any ps _ wr HPLN.out HPB.out hv.out).mono ?_
              rintro e w8 ⟨rfl, hb8⟩
              go_wp2_with fail
              refine (rreduce_any _ w8 hms.1 hms.2).mono ?_
              rintro e w9 ⟨rfl, hb9⟩
              have hb := hb8.trans (hb9.mono hb8.size)
              have b9 := hbl.trans (hb.mono hbl.size)
              have k9 := kr.below hb kr.lt
              have e9 := er.below hb er.lt
              have c9 := cr.below hb cr.lt
              have a9 := ar.below hb ar.lt
              have hdw := HDW.out (reds (s * val (clamp key)) 4)
              have hdl := HDL.out (reds (s * val (clamp key)) 4)
              clear hbl kr er cr ar pr hb8 hb9 hb hms
              go_wp2_with (refine wpList_store_RowTo (w := w9) rfl 55 _ _ rfl ga rfl 55 .u32 _ (digits (reds (s * val (clamp key)) 4) 40) rfl a9 40 info_forty hdl HSLN.out hdw ?_; intro w10 q10 g10 z10)
              go_roundw
              case rel => exact ⟨k + 1, _, hkc, by rw [hat.out], HNEW, b9.grown g10 b9.size (fun r e => by cases e; omega), k9.grown g10 (by intro e; injection e with e; omega), e9.grown g10 (by intro e; injection e with e; omega), c9.grown g10 (by intro e; injection e with e; omega), q10⟩
              case measure => simp [intOf]; omega
    · have hkc : k = count xs := by
        have := HX.out
        unfold count at hk ⊢
        omega
      have hnl : ¬ ((16 * k : Nat) : Int) < (n : Int) := by omega
      have HMV := Lib.hid hm.out
      have hm0 := hm.out.1
      have hm1 := hm.out.2.1
      have hacc : m % modulus = acc (val (clamp key)) xs (count xs) := by rw [← hkc]; exact hm.out.2.2
      have HACC := Lib.hid hacc
      have hdl := HDL.out m
      obtain ⟨p, hp⟩ : ∃ p, 16 * k = p := ⟨_, rfl⟩
      rw [hp] at hnl ⊢
      clear hacc hkc hk hlt hp hm
      go_wp2_with (refine wpList_load_Row (w := wr) rfl 55 _ rfl ga rfl 55 .u32 _ ar 40 53 Tryd.underlying55 info_forty hdl ?_)
      refine (rleast_any m wr hm0 hm1).mono ?_
      rintro e w3 ⟨rfl, hb3⟩
      have b3 := hbl.trans (hb3.mono hbl.size)
      have k3 := kr.below hb3 kr.lt
      have e3 := er.below hb3 er.lt
      have a3 := ar.below hb3 ar.lt
      have hdw2 := HDW.out (m % modulus)
      have hdl2 := HDL.out (m % modulus)
      clear hbl kr er cr ar hb3
      go_wp2_with (refine wpList_store_RowTo (w := w3) rfl 55 _ _ rfl ga rfl 55 .u32 _ (digits (m % modulus) 40) rfl a3 40 info_forty hdl2 hdl hdw2 ?_; intro w4 q4 g4 z4)
      have b4 := b3.grown g4 b3.size (fun r e => by cases e; omega)
      have k4 := k3.grown g4 (by intro e; injection e with e; omega)
      have e4 := e3.grown g4 (by intro e; injection e with e; omega)
      have hmm : 0 ≤ m % modulus ∧ m % modulus < 2 ^ 130 := ⟨Int.emod_nonneg _ (by unfold modulus; omega), by have := Int.emod_lt_of_pos m (show (0 : Int) < modulus by unfold modulus; omega); unfold modulus at this ⊢; omega⟩
      have hvm : val (digits (m % modulus) 40) = m % modulus := by rw [val_digits]; omega
      have hLL : (digits (m % modulus) 40).length = (wideH key).length := by rw [hdl2, wideH_length HK.out]
      have HFL := Lib.hid (show (addB (digits (m % modulus) 40) (wideH key)).length = 40 by rw [addB_length hLL, hdl2])
      have HFB := Lib.hid (addB_bound (digits_bytes 40 (m % modulus)) (wideH_bytes hkb))
      have HFV := Lib.hid (show val (addB (digits (m % modulus) 40) (wideH key)) = m % modulus + val ((key.drop 16).take 16) by rw [val_addB hLL, hvm, wideH_val])
      have HGL := Lib.hid (fun i (hi : i < 16) => show (addB (digits (m % modulus) 40) (wideH key)).getD i 0 = (digits (m % modulus) 40).getD i 0 + key.getD (16 + i) 0 by
        rw [addB_get (by rw [hdl2]; omega) (by rw [wideH_length HK.out]; omega), wideH_get HK.out hi])
      have HGH := Lib.hid (fun j (hj : 16 ≤ j) (hjD : j < (digits (m % modulus) 40).length) => show (addB (digits (m % modulus) 40) (wideH key)).getD j 0 = (digits (m % modulus) 40).getD j 0 by
        rw [addB_get hjD (by rw [wideH_length HK.out, ← hdl2]; exact hjD), wideH_get_hi HK.out hj]
        omega)
      have HDA := Lib.hid (fun i => (digits_bytes 40 (m % modulus)).at_ i)
      have HKA := Lib.hid (fun i => hkb.at_ i)
      have HDX := Lib.hid hdl2
      obtain ⟨D, hD⟩ : ∃ D, digits (m % modulus) 40 = D := ⟨_, rfl⟩
      rw [hD] at q4 HFL HFB HFV HDX
      simp only [hD] at HGL HGH HDA
      clear hD hvm hLL hdl hdl2 hdw2 b3 k3 e3 a3 g4 z4 hmm
      obtain ⟨S, hS⟩ : ∃ S, addB D (wideH key) = S := ⟨_, rfl⟩
      rw [hS] at HFL HFB HFV
      simp only [hS] at HGL HGH
      clear hS
      go_loopw [13] (fun i wr => ∃ q : Nat, q ≤ 16 ∧ i = .int .i64 q ∧ Below w.heap.size w wr ∧ Row wr w.heap.size 22 .u8 key ∧ Row wr gr 27 .u8 (List.replicate 16 0) ∧ Row wr ga 55 .u32 (blend S D q)) (fun i _ => 16 - (intOf i).toNat)
      case atStart => exact ⟨0, by omega, rfl, b4, k4, e4, by rw [blend_zero]; exact q4⟩
      case round =>
        clear b4 k4 e4 q4
        obtain ⟨q, hq, rfl, hbl, kr, er, ar⟩ := hrel
        have hq0 : (0 : Int) ≤ (q : Int) := by omega
        have hLen : S.length = D.length := by rw [HFL.out, HDX.out]
        by_cases hlq : q < 16
        · have hlq' : (q : Int) < 16 := by omega
          have hq40 : (q : Int) < 40 := by omega
          have hqk : (16 : Int) + (q : Int) < 32 := by omega
          have hqD : q < D.length := by rw [HDX.out]; omega
          have ca := ar.cell (i := q) (by rw [blend_length hLen]; exact hqD)
          rw [blend_get hLen hqD] at ca
          have ck := kr.cell (i := 16 + q) (by rw [HK.out]; omega)
          have fa := ar.frozen q
          have hg := HGL.out q hlq
          have hx := HDA.out q
          have hy := HKA.out (16 + q)
          have HS := Lib.hid (show Row (wr.setCell ⟨ga, q, none⟩ (.int .u32 (D.getD q 0 + key.getD (16 + q) 0))) ga 55 .u32 (blend S D (q + 1)) by
            rw [← blend_set hLen hqD, hg]
            exact ar.set q (wf_32 (by omega)))
          have HE := er.other (p := ⟨ga, q, none⟩) (by simp; omega) (.int .u32 (D.getD q 0 + key.getD (16 + q) 0))
          have HE2 := kr.other (p := ⟨ga, q, none⟩) (by simp; omega) (.int .u32 (D.getD q 0 + key.getD (16 + q) 0))
          have HBL := Lib.hid (hbl.setCell (p := ⟨ga, q, none⟩) (by simp; omega) (.int .u32 (D.getD q 0 + key.getD (16 + q) 0)))
          clear hLen hg ar er kr hbl hqD
          generalize D.getD q 0 = x at *
          generalize key.getD (16 + q) 0 = y at *
          have hcv : IntKind.u32.wrap y = y := IntWalk.u32_in _ (by omega)
          have hadd : IntKind.u32.wrap (x + y) = x + y := IntWalk.u32_in _ (by omega)
          have hadd2 : (x + y) % 4294967296 = x + y := by omega
          have hqw : IntKind.i64.wrap ((16 : Int) + (q : Int)) = (16 : Int) + (q : Int) := IntWalk.i64_in _ (by omega)
          have hqn : ((16 : Int) + (q : Int)).toNat = 16 + q := by omega
          have hq160 : (0 : Int) ≤ (16 : Int) + (q : Int) := by omega
          go_wp2_with fail
          go_still_tail 11, (by kernel_rfl)
          change wpList _ _ _ _ _ wr.drew
          go_wp2_with fail
          go_roundw
          case rel => exact ⟨q + 1, by omega, by go_num, HBL.out.drew, HE2, HE, HS.out⟩
          case measure => simp [intOf]; omega
        · have hq16 : q = 16 := by omega
          have hnl2 : ¬ (q : Int) < 16 := by omega
          rw [hq16, blend_rest hLen 16 HGH.out] at ar
          clear hq16 hlq hq hLen
          go_wp2_with (refine wpList_load_Row (w := wr) rfl 55 _ rfl ga rfl 55 .u32 _ ar 40 53 Tryd.underlying55 info_forty HFL.out ?_)
          refine (rcarry_any S _ wr HFL.out (fun z hz => by have := HFB.out z hz; omega) HFV.out).mono ?_
          rintro e w5 ⟨rfl, hb5⟩
          have b5 := hbl.trans (hb5.mono hbl.size)
          have e5 := er.below hb5 er.lt
          have a5 := ar.below hb5 ar.lt
          have hz : poly key xs = digits (m % modulus + val ((key.drop 16).take 16)) 16 := by rw [poly, HACC.out]
          have HZ := Lib.hid hz
          have hwg := fun i (hi : i < 16) => wideD_get (m % modulus + val ((key.drop 16).take 16)) hi
          rw [← hz] at hwg
          have HWG := Lib.hid hwg
          have hdw := HDW.out (m % modulus + val ((key.drop 16).take 16))
          have hdl := HDL.out (m % modulus + val ((key.drop 16).take 16))
          clear hbl kr er ar hb5 hz hwg
          obtain ⟨Z, hZ⟩ : ∃ Z, digits (m % modulus + val ((key.drop 16).take 16)) 40 = Z := ⟨_, rfl⟩
          have HZA := Lib.hid (fun i => (digits_bytes 40 (m % modulus + val ((key.drop 16).take 16))).at_ i)
          simp only [hZ] at HWG HZA
          rw [hZ] at hdw hdl ⊢
          clear hZ HGL HGH HFV
          go_wp2_with (first
            | (refine wpList_store_RowTo (w := w5) rfl 55 _ _ rfl ga rfl 55 .u32 _ Z rfl a5 40 info_forty hdl HFL.out hdw ?_; intro w6 q6 g6 z6)
            | (refine wpList_alloc_Row (w := w6) rfl 27 rfl .u8 16 zero_16b ?_; intro w7 r7 g7 z7))
          obtain ⟨gp, hgp⟩ : ∃ g, w6.heap.size = g := ⟨_, rfl⟩
          have lp := q6.lt
          have b7 := (b5.grown g6 b5.size (fun r e => by cases e; omega)).grown g7 (by have := b5.size; have := g6.size; omega) (by simp)
          have e7 := (e5.grown g6 (by intro e; injection e with e; omega)).grown g7 (by simp)
          have a7 := q6.grown g7 (by simp)
          rw [hgp] at lp r7 ⊢
          have HPL := Lib.hid (poly_length key xs)
          have HPW := Lib.hid (bs_wf (poly_bytes key xs))
          have HZL := Lib.hid hdl
          clear hgp b5 e5 a5 q6 g6 g7 z6 z7 hdw hdl
          obtain ⟨T, hT⟩ : ∃ T, poly key xs = T := ⟨_, rfl⟩
          rw [hT] at HPL HPW
          simp only [hT] at HWG
          have HTE := Lib.hid hT
          clear hT HZ
          go_loopw [15] (fun i wr => ∃ q : Nat, q ≤ 16 ∧ i = .int .i64 q ∧ Below w.heap.size w wr ∧ Row wr gr 27 .u8 (List.replicate 16 0) ∧ Row wr ga 55 .u32 Z ∧ Row wr gp 27 .u8 (blend T (List.replicate 16 0) q)) (fun i _ => 16 - (intOf i).toNat)
          case atStart => exact ⟨0, by omega, rfl, b7, e7, a7, by rw [blend_zero]; exact r7⟩
          case round =>
            clear b7 e7 a7 r7
            obtain ⟨q, hq, rfl, hbl, er, ar, pr⟩ := hrel
            have hq0 : (0 : Int) ≤ (q : Int) := by omega
            have hLen : T.length = (List.replicate 16 (0 : Int)).length := by rw [HPL.out]; simp
            by_cases hlq : q < 16
            · have hlq' : (q : Int) < 16 := by omega
              have hq40 : (q : Int) < 40 := by omega
              have ca := ar.cell (i := q) (by rw [HZL.out]; omega)
              have hset := blend_set hLen (i := q) (by simpa using hlq)
              rw [← HWG.out q hlq] at hset
              have HSET := Lib.hid hset
              have HBL := Lib.hid (show (blend T (List.replicate 16 0) q).length = 16 by rw [blend_length hLen]; simp)
              have hx := HZA.out q
              clear hset hLen
              generalize Z.getD q 0 = x at *
              have hcv : IntKind.u8.wrap x = x := IntWalk.u8_in _ (by omega)
              have hcv2 : x % 256 = x := by omega
              have w0 : (Lit.int .u8 x).wf = true := wf_byte hx
              go_wp2_with (refine wpList_store_elem (w := wr) rfl 5 _ _ rfl gp q rfl 27 .u8 _ x rfl pr (by rw [HBL.out]; exact hlq) info_u8 w0 ?_; intro w8 q8 g8 z8; rw [HSET.out] at q8)
              go_roundw
              case rel => exact ⟨q + 1, by omega, by go_num, hbl.grown g8 hbl.size (fun r e => by cases e; omega), er.grown g8 (by intro e; injection e with e; omega), ar.grown g8 (by intro e; injection e with e; omega), q8⟩
              case measure => simp [intOf]; omega
            · have hq16 : q = 16 := by omega
              have hnl3 : ¬ (q : Int) < 16 := by omega
              have hz : blend T (List.replicate 16 0) 16 = T := blend_all (F := T) (a := List.replicate 16 0) (by rw [HPL.out]; simp)
              rw [hq16, hz] at pr
              clear hz hq16 hlq hq hLen
              go_wp2_with (first
                | (refine wpList_load_Row (w := wr) rfl 27 _ rfl gp rfl 27 .u8 _ pr 16 5 Tryd.underlying27 info_16b HPL.out ?_)
                | (refine wpList_store_RowTo (w := wr) rfl 27 _ _ rfl gr rfl 27 .u8 _ T rfl er 16 info_16b HPL.out (by simp) HPW.out ?_; intro w8 q8 g8 z8))
              refine bodyPost_ret (results_Row rfl _ _ gr _ _ _ rfl q8 16 5 Tryd.underlying27 info_16b HPL.out) rfl ?_
              exact ⟨by rw [HTE.out], hbl.grown g8 hbl.size (fun r e => by cases e; omega)⟩
end Go.Proofs.YtebkicikpeicmaaDoor.Po

