/-
  The document's own reduce and least, each by its contract. Conditions: a number below 2^300; one below 2^130.
-/
import Derived.Test.YtebkicikpeicmaaDoorPr1
namespace Go.Proofs.YtebkicikpeicmaaDoor.Po
open Go.RowKit Go.Shelf Go.Proofs.YtebkicikpeicmaaDoor.Mem Go.Proofs.YtebkicikpeicmaaDoor.Sum
set_option linter.unusedVariables false
attribute [local irreducible] wpList wpListIn

theorem blend_same {F a : List Int} (h : F.length = a.length) {i : Nat} (hi : i < a.length) (he : F.getD i 0 = a.getD i 0) : blend F a (i + 1) = blend F a i := by
  rw [← blend_set h hi, he, ← blend_get h hi]
  apply List.ext_getElem
  · simp
  · intro j h1 h2
    rw [List.getElem_set]
    split
    · rename_i e
      subst e
      rw [List.getD_eq_getElem?_getD, List.getElem?_eq_getElem h2]
      rfl
    · rfl
theorem bytes32 {xs : List Int} (h : Bs xs) : ∀ z ∈ xs, (Lit.int .u32 z).wf = true := fun z hz => wf_32 (by have := h z hz; omega)
theorem lowL_get {D : List Int} (h : D.length = 40) {i : Nat} (hi : i < 40) : (lowL D).getD i 0 = if i < 16 then D.getD i 0 else if i = 16 then D.getD 16 0 % 4 else 0 := by
  have e : (D.take 16).length = 16 := by simp [h]
  simp only [lowL, List.getD_eq_getElem?_getD]
  by_cases h1 : i < 16
  · rw [List.getElem?_append_left (by omega), if_pos h1, List.getElem?_take, if_pos h1]
  · rw [List.getElem?_append_right (by omega), if_neg h1, e]
    by_cases h2 : i = 16
    · subst h2
      rfl
    · rw [if_neg h2, show i - 16 = (i - 17) + 1 by omega, List.getElem?_cons_succ, List.getElem?_replicate, if_pos (by omega)]
      rfl
theorem highL_get (D : List Int) {j : Nat} (hj : j < 24) : (highL D).getD j 0 = highAt D j := by
  simp only [highL, List.getD_eq_getElem?_getD]
  rw [List.getElem?_append_left (by simpa using hj)]
  simp [hj]
theorem or_high (x y : Int) (hx : 0 ≤ x ∧ x ≤ 255) (hy : 0 ≤ y ∧ y ≤ 255) : bits .or .u32 (x / 4) (y * 64 % 256) = x / 4 + y * 64 % 256 :=
  bits_join_low .u32 32 (by decide) (fun n h1 h2 => wraps_u32 n h1 h2) 6 (x / 4) (y * 64 % 256) (by omega) (by omega) (by omega) (by omega) (by omega) (by omega)

set_option maxRecDepth 100000 in
set_option maxHeartbeats 1000000 in
theorem rreduce_any (n : Int) (w : World) (h0 : 0 ≤ n) (hn : n < 2 ^ 300) :
    Calls Tryd.prog 25 #[.agg (arr .u32 (digits n 40))] w fun e w' => e = .returned (.agg (arr .u32 (digits (reds n 4) 40))) ∧ Below w.heap.size w w' := by
  have HB := Lib.hid (fun k => reds_bound h0 hn k)
  have HDW := Lib.hid (fun m : Int => bytes32 (digits_bytes 40 m))
  have HDL := Lib.hid (fun m : Int => digits_length 40 m)
  have hdw := HDW.out n
  go_enter Tryd.func25, Tryd.ntmps25
  go_wp2_with (first
    | (refine wpList_box_Row (w := w) rfl 55 _ rfl .u32 (digits n 40) rfl hdw ?_; intro w1 r1 g1 z1)
    | (refine wpList_alloc_Row (w := w1) rfl 55 rfl .u32 40 zero_forty ?_; intro w2 r2 g2 z2))
  obtain ⟨gr, hgr⟩ : ∃ g, w1.heap.size = g := ⟨_, rfl⟩
  have l1 := r1.lt
  have b2 : Below w.heap.size w w2 := ((Below.refl _ w).grown g1 (Nat.le_refl _) (by simp)).grown g2 g1.size (by simp)
  have p2 := r1.grown g2 (by simp)
  rw [hgr] at l1 r2 ⊢
  clear hgr r1 g1 g2 z1 z2
  go_loopw [3] (fun i wr => ∃ k : Nat, k ≤ 4 ∧ i = .int .i64 k ∧ Below w.heap.size w wr ∧ Row wr w.heap.size 55 .u32 (digits (reds n k) 40) ∧ Row wr gr 55 .u32 (List.replicate 40 0)) (fun i _ => 4 - (intOf i).toNat)
  case atStart => exact ⟨0, by omega, rfl, b2, p2, r2⟩
  case round =>
    clear b2 p2 r2
    obtain ⟨k, hk, rfl, hbl, ar, er⟩ := hrel
    have hk0 : (0 : Int) ≤ (k : Int) := by omega
    by_cases hlt : k < 4
    · have hlt' : (k : Int) < 4 := by omega
      have hb4 := HB.out k
      have HRED := Lib.hid (show reds n (k + 1) = red (reds n k) from rfl)
      generalize reds n k = m at *
      have HFV := Lib.hid (fold_val hb4.1 (show m < 256 ^ 40 by omega))
      have HD := HDL.out m
      have HDB := Lib.hid (digits_bytes 40 m)
      generalize digits m 40 = D at *
      have HLL := Lib.hid (lowL_length HD)
      have HHL := Lib.hid (highL_length D)
      have HLG := Lib.hid (fun i (h : i < 40) => lowL_get HD h)
      have HHG := Lib.hid (fun j (h : j < 24) => highL_get D h)
      have HDG := Lib.hid (fun i => HDB.out.at_ i)
      have HD40 := Lib.hid (show D.getD 40 0 = 0 by rw [List.getD_eq_getElem?_getD, List.getElem?_eq_none (by omega)]; rfl)
      have HLW := Lib.hid (bytes32 (lowL_bytes HDB.out))
      have HHW := Lib.hid (bytes32 (highL_bytes HDB.out))
      have HFL := Lib.hid (fold_length HD)
      have HFG := Lib.hid (fun i (h : i < 40) => fold_get HD h)
      have HFB := Lib.hid (fold_bound HDB.out)
      have HLB := Lib.hid (fun i => (lowL_bytes HDB.out).at_ i)
      have HHB := Lib.hid (fun i => (highL_bytes HDB.out).at_ i)
      have HDX := Lib.hid HD
      clear HD
      go_wp2_with (first
        | (refine wpList_alloc_Row (w := wr) rfl 55 rfl .u32 40 zero_forty ?_; intro w3 r3 g3 z3)
        | (refine wpList_alloc_Row (w := w3) rfl 55 rfl .u32 40 zero_forty ?_; intro w4 r4 g4 z4))
      obtain ⟨gh, hgh⟩ : ∃ g, wr.heap.size = g := ⟨_, rfl⟩
      obtain ⟨gl, hgl⟩ : ∃ g, w3.heap.size = g := ⟨_, rfl⟩
      have l3 := r3.lt
      have le := er.lt
      have b4 : Below w.heap.size w w4 := (hbl.grown g3 hbl.size (by simp)).grown g4 (by have := hbl.size; have := g3.size; omega) (by simp)
      have a4 := (ar.grown g3 (by simp)).grown g4 (by simp)
      have e4 := (er.grown g3 (by simp)).grown g4 (by simp)
      have h4 := r3.grown g4 (by simp)
      rw [hgh] at l3 le h4
      rw [hgl] at l3 r4
      rw [hgh, hgl]
      clear hgh hgl r3 g3 g4 z3 z4 hbl ar er w3
      go_loopw [6] (fun i wr => ∃ q : Nat, q ≤ 40 ∧ i = .int .i64 q ∧ Below w.heap.size w wr ∧ Row wr w.heap.size 55 .u32 D ∧ Row wr gr 55 .u32 (List.replicate 40 0) ∧ Row wr gl 55 .u32 (blend (lowL D) (List.replicate 40 0) q) ∧ Row wr gh 55 .u32 (blend (highL D) (List.replicate 40 0) (q - 16))) (fun i _ => 40 - (intOf i).toNat)
      case atStart => exact ⟨0, by omega, rfl, b4, a4, e4, by rw [blend_zero]; exact r4, by rw [Nat.zero_sub, blend_zero]; exact h4⟩
      case round =>
        clear b4 a4 e4 r4 h4
        obtain ⟨q, hq, rfl, hbl, ar, er, lr, hr⟩ := hrel
        have hq0 : (0 : Int) ≤ (q : Int) := by omega
        by_cases hlq : q < 40
        · have hlq' : (q : Int) < 40 := by omega
          have hLen : (lowL D).length = (List.replicate 40 (0 : Int)).length := by rw [HLL.out]; simp
          have hHen : (highL D).length = (List.replicate 40 (0 : Int)).length := by rw [HHL.out]; simp
          have hl40 : (blend (lowL D) (List.replicate 40 0) q).length = 40 := by rw [blend_length hLen]; simp
          have hh40 : (blend (highL D) (List.replicate 40 0) (q - 16)).length = 40 := by rw [blend_length hHen]; simp
          have ca := ar.cell (i := q) (by rw [HDX.out]; exact hlq)
          have hx := HDG.out q
          have HSL := Lib.hid (blend_set hLen (i := q) (by simpa using hlq))
          have hlg := HLG.out q hlq
          have HL40 := Lib.hid hl40
          have HH40 := Lib.hid hh40
          by_cases h16 : q < 16
          · rw [if_pos h16] at hlg
            rw [hlg] at HSL
            have h16' : (q : Int) < 16 := by omega
            rw [show q - 16 = 0 by omega] at hr
            have HQ := Lib.hid (show q + 1 - 16 = 0 by omega)
            clear hlg hl40 hh40 hLen hHen
            generalize D.getD q 0 = x at *
            have w0 : (Lit.int .u32 x).wf = true := wf_32 (by omega)
            go_wp2_with (refine wpList_store_elem (w := wr) rfl 53 _ _ rfl gl q rfl 55 .u32 _ x rfl lr (by rw [HL40.out]; exact hlq) info_u32 w0 ?_; intro w5 q5 g5 z5; rw [HSL.out] at q5)
            go_roundw
            case rel => exact ⟨q + 1, by omega, by go_num, hbl.grown g5 hbl.size (fun r e => by cases e; omega), ar.grown g5 (by intro e; injection e with e; omega), er.grown g5 (by intro e; injection e with e; omega), q5, by rw [HQ.out]; exact hr.grown g5 (by intro e; injection e with e; omega)⟩
            case measure => simp [intOf]; omega
          · rw [if_neg h16] at hlg
            have h16' : ¬ (q : Int) < 16 := by omega
            have h16g : (16 : Int) ≤ (q : Int) := by omega
            obtain ⟨j, hj⟩ : ∃ j, q - 16 = j := ⟨_, rfl⟩
            have hqj : q = j + 16 := by omega
            rw [hj] at hr HH40
            have HJ1 := Lib.hid (show q + 1 - 16 = j + 1 by omega)
            have hj24 : j < 24 := by omega
            have HSH := Lib.hid (blend_set hHen (i := j) (by simp; omega))
            rw [HHG.out j hj24] at HSH
            have hix : (q : Int) - 16 = (j : Int) := by omega
            have HCA := Lib.hid (fun W (hW : Row W w.heap.size 55 .u32 D) => show W.cell? ⟨w.heap.size, q, none⟩ = some (.int .u32 (D.getD q 0)) from hW.cell (by rw [HDX.out]; exact hlq))
            have HCB := Lib.hid (fun W (hW : Row W w.heap.size 55 .u32 D) (h : q < 39) => show W.cell? ⟨w.heap.size, q + 1, none⟩ = some (.int .u32 (D.getD (q + 1) 0)) from hW.cell (by rw [HDX.out]; omega))
            have hy := HDG.out (q + 1)
            have HAT := Lib.hid (show highAt D j = D.getD q 0 / 4 + D.getD (q + 1) 0 * 64 % 256 by unfold highAt; rw [show 16 + j = q by omega, show 17 + j = q + 1 by omega])
            have hor := or_high _ _ hx hy
            have hand := mask_byte (D.getD (q + 1) 0 * 64) (by omega) (by omega)
            have hwr : IntKind.u32.wrap (D.getD (q + 1) 0 * 64) = D.getD (q + 1) 0 * 64 := IntWalk.u32_in _ (by omega)
            have hwr2 : D.getD (q + 1) 0 * 64 % 4294967296 = D.getD (q + 1) 0 * 64 := by omega
            have wh : (Lit.int .u32 (D.getD q 0 / 4 + D.getD (q + 1) 0 * 64 % 256)).wf = true := wf_32 (by omega)
            rw [HAT.out] at HSH
            by_cases e16 : q = 16
            · rw [if_pos e16] at hlg
              have hlg' : (lowL D).getD q 0 = D.getD q 0 % 4 := by rw [hlg, e16]
              rw [hlg'] at HSL
              have hm2 := mask_two (D.getD q 0) (by omega) (by omega)
              clear hlg hlg' hl40 hh40 hLen hHen HAT hy
              have w0 : (Lit.int .u32 (D.getD q 0 % 4)).wf = true := wf_32 (by omega)
              generalize D.getD q 0 = x at *
              generalize D.getD (q + 1) 0 = y at *
              obtain rfl : j = 0 := by omega
              subst e16
              clear hix hqj hj h16 h16' h16g hq0 hlq' hj24
              go_wp2_with (first
                | (refine wpList_store_elem (w := wr) rfl 53 _ _ rfl gl 16 rfl 55 .u32 _ (x % 4) rfl lr (by rw [HL40.out]; omega) info_u32 w0 ?_; intro w5 q5 g5 z5; rw [HSL.out] at q5; have ar5 := ar.grown g5 (by intro e; injection e with e; omega); have hr5 := hr.grown g5 (by intro e; injection e with e; omega); have ca5 := HCA.out w5 ar5; have cb5 := HCB.out w5 ar5 (by omega); simp only [Nat.reduceAdd] at cb5)
                | (refine wpList_store_elem (w := w5) rfl 53 _ _ rfl gh 0 rfl 55 .u32 _ (x / 4 + y * 64 % 256) rfl hr5 (by rw [HH40.out]; omega) info_u32 wh ?_; intro w6 q6 g6 z6; rw [HSH.out] at q6))
              go_roundw
              case rel => exact ⟨17, by omega, by go_num, (hbl.grown g5 hbl.size (fun r e => by cases e; omega)).grown g6 (by have := hbl.size; have := g5.size; omega) (fun r e => by cases e; omega), ar5.grown g6 (by intro e; injection e with e; omega), (er.grown g5 (by intro e; injection e with e; omega)).grown g6 (by intro e; injection e with e; omega), q5.grown g6 (by intro e; injection e with e; omega), q6⟩
              case measure => simp [intOf]
            · rw [if_neg e16] at hlg
              have e16' : ¬ (q : Int) = 16 := by omega
              have b16 : ((q : Int) == 16) = false := by simp; omega
              have HSAME := Lib.hid (blend_same hLen (i := q) (by simpa using hlq) (by rw [hlg, List.getD_eq_getElem?_getD, List.getElem?_replicate, if_pos hlq]; rfl))
              by_cases e39 : q = 39
              · have hy0 : D.getD (q + 1) 0 = 0 := by rw [e39]; exact HD40.out
                have hsh' := HSH.out
                rw [hy0, show D.getD q 0 / 4 + 0 * 64 % 256 = D.getD q 0 / 4 by omega] at hsh'
                rw [hy0, show D.getD q 0 / 4 + 0 * 64 % 256 = D.getD q 0 / 4 by omega, show (0 : Int) * 64 % 256 = 0 from rfl] at hor
                have hand0 : bits .and .u32 0 255 = 0 := by decide
                have wh' : (Lit.int .u32 (D.getD q 0 / 4)).wf = true := wf_32 (by omega)
                have HSH' := Lib.hid hsh'
                clear hsh' HSH wh hlg hl40 hh40 hLen hHen HAT hy HCB HCA hwr hwr2 hy0 hand
                generalize D.getD q 0 = x at *
                obtain rfl : j = 23 := by omega
                subst e39
                clear hix hqj hj h16 h16' h16g hq0 hlq' e16' e16 b16 hj24
                go_wp2_with (refine wpList_store_elem (w := wr) rfl 53 _ _ rfl gh 23 rfl 55 .u32 _ (x / 4) rfl hr (by rw [HH40.out]; omega) info_u32 wh' ?_; intro w6 q6 g6 z6; rw [HSH'.out] at q6)
                go_roundw
                case rel => exact ⟨40, by omega, by go_num, hbl.grown g6 hbl.size (fun r e => by cases e; omega), ar.grown g6 (by intro e; injection e with e; omega), er.grown g6 (by intro e; injection e with e; omega), by rw [HSAME.out]; exact lr.grown g6 (by intro e; injection e with e; omega), q6⟩
                case measure => simp [intOf]
              · have hn : (q : Int) + 1 < 40 := by omega
                have cb := HCB.out wr ar (by omega)
                clear hlg hl40 hh40 hLen hHen HAT HCB HCA
                have HQJ := Lib.hid hqj
                clear hqj hj h16 e16 e16' e39
                generalize D.getD q 0 = x at *
                generalize D.getD (q + 1) 0 = y at *
                go_wp2_with (refine wpList_store_elem (w := wr) rfl 53 _ _ rfl gh j rfl 55 .u32 _ (x / 4 + y * 64 % 256) rfl hr (by rw [HH40.out]; omega) info_u32 wh ?_; intro w6 q6 g6 z6; rw [HSH.out] at q6)
                go_roundw
                case rel => exact ⟨q + 1, by omega, by go_num, hbl.grown g6 hbl.size (fun r e => by cases e; omega), ar.grown g6 (by intro e; injection e with e; omega), er.grown g6 (by intro e; injection e with e; omega), by rw [HSAME.out]; exact lr.grown g6 (by intro e; injection e with e; omega), by rw [HJ1.out]; exact q6⟩
                case measure => simp [intOf]; omega
        · have hq40 : q = 40 := by omega
          have hnl : ¬ (q : Int) < 40 := by omega
          rw [hq40] at lr hr
          have hz : blend (lowL D) (List.replicate 40 0) 40 = lowL D := blend_all (F := lowL D) (a := List.replicate 40 0) (by rw [HLL.out]; simp)
          have hz2 : blend (highL D) (List.replicate 40 0) (40 - 16) = highL D := by
            rw [show 40 - 16 = 24 from rfl, blend, highL, List.take_left' (by simp)]
            simp
          rw [hz] at lr
          rw [hz2] at hr
          clear hz hz2 hq0 hlq hq hq40 HLG HHG
          go_wp2_with fail
          go_loopw [8] (fun i wr => ∃ q : Nat, q ≤ 40 ∧ i = .int .i64 q ∧ Below w.heap.size w wr ∧ Row wr w.heap.size 55 .u32 D ∧ Row wr gr 55 .u32 (List.replicate 40 0) ∧ Row wr gl 55 .u32 (blend (fold D) (lowL D) q) ∧ Row wr gh 55 .u32 (highL D)) (fun i _ => 40 - (intOf i).toNat)
          case atStart => exact ⟨0, by omega, rfl, hbl, ar, er, by rw [blend_zero]; exact lr, hr⟩
          case round =>
            clear hbl ar er lr hr
            obtain ⟨q, hq, rfl, hbl, ar, er, lr, hr⟩ := hrel
            have hq0 : (0 : Int) ≤ (q : Int) := by omega
            by_cases hlq : q < 40
            · have hlq' : (q : Int) < 40 := by omega
              have hLen : (fold D).length = (lowL D).length := by rw [HFL.out, HLL.out]
              have cl := lr.cell (i := q) (by rw [blend_length hLen, HLL.out]; exact hlq)
              have ch := hr.cell (i := q) (by rw [HHL.out]; exact hlq)
              rw [blend_get hLen (by rw [HLL.out]; exact hlq)] at cl
              have fl := lr.frozen q
              have hfg := HFG.out q hlq
              have hx := HLB.out q
              have hy := HHB.out q
              have HS := Lib.hid (show Row (wr.setCell ⟨gl, q, none⟩ (.int .u32 ((lowL D).getD q 0 + 5 * (highL D).getD q 0))) gl 55 .u32 (blend (fold D) (lowL D) (q + 1)) by
                rw [← blend_set hLen (by rw [HLL.out]; exact hlq), hfg]
                exact lr.set q (wf_32 (by omega)))
              have HE := er.other (p := ⟨gl, q, none⟩) (by simp; omega) (.int .u32 ((lowL D).getD q 0 + 5 * (highL D).getD q 0))
              have HE2 := ar.other (p := ⟨gl, q, none⟩) (by simp; omega) (.int .u32 ((lowL D).getD q 0 + 5 * (highL D).getD q 0))
              have HE3 := hr.other (p := ⟨gl, q, none⟩) (by simp; omega) (.int .u32 ((lowL D).getD q 0 + 5 * (highL D).getD q 0))
              have HBL := Lib.hid (hbl.setCell (p := ⟨gl, q, none⟩) (by simp; omega) (.int .u32 ((lowL D).getD q 0 + 5 * (highL D).getD q 0)))
              clear hLen hfg ar er lr hr hbl
              generalize (lowL D).getD q 0 = x at *
              generalize (highL D).getD q 0 = y at *
              have hmul : IntKind.u32.wrap (5 * y) = 5 * y := IntWalk.u32_in _ (by omega)
              have hadd : IntKind.u32.wrap (x + 5 * y) = x + 5 * y := IntWalk.u32_in _ (by omega)
              have hadd2 : (x + 5 * y) % 4294967296 = x + 5 * y := by omega
              go_wp2_with fail
              go_still_tail 10, (by kernel_rfl)
              change wpList _ _ _ _ _ wr.drew
              go_wp2_with fail
              go_roundw
              case rel => exact ⟨q + 1, by omega, by go_num, HBL.out.drew, HE2, HE, HS.out, HE3⟩
              case measure => simp [intOf]; omega
            · have hq40 : q = 40 := by omega
              subst hq40
              have hz : blend (fold D) (lowL D) 40 = fold D := by
                have := blend_all (F := fold D) (a := lowL D) (by rw [HFL.out, HLL.out])
                rwa [HLL.out] at this
              rw [hz] at lr
              clear hz hq0 hlq
              go_wp2_with (refine wpList_load_Row (w := wr) rfl 55 _ rfl gl rfl 55 .u32 _ lr 40 53 Tryd.underlying55 info_forty HFL.out ?_)
              refine (rcarry_any (fold D) (red m) wr HFL.out HFB.out HFV.out).mono ?_
              rintro e w7 ⟨rfl, hb7⟩
              have a7 := ar.below hb7 ar.lt
              have e7 := er.below hb7 er.lt
              have b7 := hbl.trans (hb7.mono hbl.size)
              have hdw2 := HDW.out (red m)
              go_wp2_with (refine wpList_store_RowTo (w := w7) rfl 55 _ _ rfl w.heap.size rfl 55 .u32 _ (digits (red m) 40) rfl a7 40 info_forty (HDL.out _) HDX.out hdw2 ?_; intro w8 q8 g8 z8)
              go_roundw
              case rel => exact ⟨k + 1, by omega, by go_num, b7.grown g8 b7.size (fun r e => by cases e; omega), by rw [HRED.out]; exact q8, e7.grown g8 (by intro e; injection e with e; omega)⟩
              case measure => simp [intOf]; omega
    · have hk4 : k = 4 := by omega
      subst hk4
      have hdw2 := HDW.out (reds n 4)
      have HL := Lib.hid (HDL.out (reds n 4))
      clear hk0 hlt hdw
      go_wp2_with (first
        | (refine wpList_load_Row (w := wr) rfl 55 _ rfl w.heap.size rfl 55 .u32 _ ar 40 53 Tryd.underlying55 info_forty HL.out ?_)
        | (refine wpList_store_RowTo (w := wr) rfl 55 _ _ rfl gr rfl 55 .u32 _ (digits (reds n 4) 40) rfl er 40 info_forty HL.out (by simp) hdw2 ?_; intro w8 q8 g8 z8))
      refine bodyPost_ret (results_Row rfl _ _ gr _ _ _ rfl q8 40 53 Tryd.underlying55 info_forty HL.out) rfl ?_
      exact ⟨rfl, hbl.grown g8 hbl.size (fun r e => by cases e; omega)⟩
end Go.Proofs.YtebkicikpeicmaaDoor.Po

