/-
  The iterator over a message's pieces of package poly, by its contract: it hands out just the pieces, one by one. Conditions: at most 2^30 parts, of at most 2^40 bytes together.
-/
import Derived.Test.YtebkicikpeicmaaDoorPy4
import Derived.Test.YtebkicikpeicmaaDoorInE
import Derived.Test.YtebkicikpeicmaaDoorTextsP
namespace Go.Proofs.YtebkicikpeicmaaDoor.Po
open Go.RowKit Go.Shelf Go.Proofs.YtebkicikpeicmaaDoor.Mem Go.Proofs.YtebkicikpeicmaaDoor.Sum Go.Proofs.YtebkicikpeicmaaDoor.Range Go.Proofs.YtebkicikpeicmaaDoor.Sha
set_option linter.unusedVariables false
attribute [local go_sem] Oper.semAt_some

theorem pieces_any (A : Option Addr) (m c : Nat) (w : World) :
    Calls Tryd.prog 19 #[.slice A m c] w fun e w' => e = .returned (.func (.func 28) #[] #[.pointer (some ⟨w.heap.size, 0, none⟩)]) ∧ w' = w.alloc (.cells #[.slice A m c] 23) := by
  go_enter Tryd.func19, Tryd.ntmps19
  go_wp2
  go_ret
  exact ⟨rfl, rfl⟩

set_option maxRecDepth 100000 in
set_option maxHeartbeats 2000000 in
theorem pieces_far (n bx B : Nat) (S : Nat → Prop) (A : Option Addr) (m c : Nat) (vs : List Value) (xss : List (List Int)) (w : World) (hbx : w.cell? ⟨bx, 0, none⟩ = some (.slice A m c)) (h : Vals w B A m vs) (ht : Texts w B vs xss)
    (hB : B ≤ w.heap.size) (hS : ∀ b, S b → B ≤ b ∧ b < w.heap.size) (hm : m ≤ 1073741824) (hn : xss.flatten.length ≤ 1099511627776) (hbs : Bs xss.flatten) :
    SeqFar Fence.wide n Tryd.prog 28 #[.pointer (some ⟨bx, 0, none⟩)] (fun bs => #[.agg (arr .u8 bs)]) (Only S) (pieces xss.flatten) w := by
  intro l J W hW hJ hY h0
  have hbx' := (hW.cell (p := ⟨bx, 0, none⟩) (World.block_lt_of_cell? w _ hbx)).trans hbx
  have hs := hW.size
  refine callsIn_of_wp Tryd.func28 rfl trivial ?_ rfl
  simp only [Tryd.ntmps28, List.size_toArray, List.length_cons, List.length_nil, Nat.reduceAdd, Nat.reduceSub, Array.replicate_succ, Array.replicate_zero, List.push_toArray, List.append_toArray, List.nil_append, List.cons_append]
  gi_wp2_with (refine wpListIn_alloc_Row rfl 42 rfl .u8 17 zero_17 ?_; intro w2 rb g2 z2; have hbx2 : w2.cell? ⟨bx, 0, none⟩ = some (.slice A m c) := (World.cell?_of_block (w := W) (w' := w2) (a := ⟨bx, 0, none⟩) (g2.block bx (World.block_lt_of_cell? _ _ hbx') (by simp))).trans hbx')
  have hw2 : Below W.heap.size W w2 := (Below.refl _ W).grown g2 (Nat.le_refl _) (by simp)
  have hJ2 := hJ [] W w2 none h0 (grown_of_below hw2 none) (fun r e => by cases e)
  have htn : Texts w2 B vs xss := (ht.below (hW.mono hB)).below (hw2.mono (by omega))
  have hvn : Vals w2 B A m vs := (h.below (hW.mono hB)).below (hw2.mono (by omega))
  have hSB : ∀ b, b < B → ¬ (S b ∨ b = W.heap.size) := fun b hb e => by
    rcases e with e | e
    · have := (hS b e).1; omega
    · omega
  have hWS : ¬ S W.heap.size := fun e => by have := (hS _ e).2; omega
  have hall : ∀ k, k < m → ∃ b off A' n' c', A = some ⟨b, off, none⟩ ∧ b < B ∧ w2.cell? ⟨b, off + k, none⟩ = some (.slice A' n' c') ∧ n' ≤ c' ∧ c' ≤ maxLen ∧ IntsN w2 .u8 (fun b => S b ∨ b = W.heap.size) A' n' (xss.getD k []) := fun k hk => by
    obtain ⟨b, off, e, hb, hc⟩ := hvn.at_ hk
    obtain ⟨A', n', c', e3, h3, h4, h5⟩ := htn.2 k (by rw [h.1]; exact hk)
    rw [e3] at hc
    exact ⟨b, off, A', n', c', e, hb, hc, h3, h4, IntsN.of h5 hSB⟩
  have HX := Lib.hid (show xss.length = m from ht.1.symm.trans h.1)
  clear h ht htn hvn hbx hbx' hbx2 hw2
  have hflat := fun k => flat_le xss k
  have hget := fun k (hk : k < xss.length) => flat_get xss k hk
  have hend : (xss.take m).flatten = xss.flatten := by rw [List.take_of_length_le (by rw [HX.out]; exact Nat.le_refl _)]
  obtain ⟨M, hM⟩ : ∃ M, xss.flatten = M := ⟨_, rfl⟩
  rw [hM] at hn hbs hY hend
  simp only [hM] at hflat hget
  have HMX := Lib.hid hM
  have HEND := Lib.hid hend
  clear hM hend
  have HFL := Lib.hid hflat
  have HGT := Lib.hid hget
  clear hflat hget
  have HN := Lib.hid hn
  clear hn
  have hm' : (m : Int) ≤ 1073741824 := by omega
  gi_loopw [4, 10] (fun f i wr => ∃ k p : Nat, k ≤ m ∧ i = .int .i64 k ∧ Hid (p = (xss.take k).flatten.length) ∧ f = .int .i64 ((p % 16 : Nat) : Int) ∧ J ((pieces M).take (p / 16)) wr ∧ Only (fun b => S b ∨ b = W.heap.size) w2 wr ∧
    Row wr W.heap.size 42 .u8 (cur M p)) (fun _ i _ => m - (intOf i).toNat)
  case atStart => exact ⟨0, 0, by omega, rfl, Lib.hid (by simp), rfl, by simpa using hJ2, Only.refl _ _, by rw [cur_start _ rfl]; exact rb⟩
  case round =>
    clear hJ2 rb
    obtain ⟨k, p, hk, rfl, hp, rfl, hJp, hon, hcur⟩ := hrel
    by_cases hlt : k < m
    · obtain ⟨b1, off1, A1, n1, c1, rfl, hb1, hc1, hn1, hm1, hi1⟩ := hall k hlt
      have hc1' := hon.cell (p := ⟨b1, off1 + k, none⟩) (hSB b1 hb1) hc1
      have hlt' : (k : Int) < (m : Int) := by omega
      have hk0 : (0 : Int) ≤ (k : Int) := by omega
      have hkl : k < xss.length := by rw [HX.out]; exact hlt
      have hq : p + n1 = (xss.take (k + 1)).flatten.length := by rw [flat_take xss hkl, hi1.1, ← hp.out]
      have hqm := HFL.out (k + 1)
      have htx := HGT.out k hkl
      rw [hi1.1, ← hp.out] at htx
      rw [htx] at hi1
      obtain ⟨q, hq2⟩ : ∃ q, (xss.take (k + 1)).flatten.length = q := ⟨_, rfl⟩
      have HQ2 := Lib.hid hq2.symm
      rw [hq2] at hq hqm
      clear hq2
      have HQ := Lib.hid hq
      clear hq htx hp hc1 hall
      gi_wp2_with fail
      gi_loopw [4, 6] (fun f a wr => ∃ p n' : Nat, ∃ A' c', f = .int .i64 ((p % 16 : Nat) : Int) ∧ a = .slice A' n' c' ∧ n' ≤ c' ∧ c' ≤ maxLen ∧ Hid (p + n' = q) ∧ IntsN w2 .u8 (fun b => S b ∨ b = W.heap.size) A' n' ((M.drop p).take n') ∧
        J ((pieces M).take (p / 16)) wr ∧ Only (fun b => S b ∨ b = W.heap.size) w2 wr ∧ Row wr W.heap.size 42 .u8 (cur M p)) (fun _ a _ => lenV a)
      case atStart => exact ⟨p, n1, A1, c1, rfl, rfl, hn1, hm1, HQ, hi1, hJp, hon, hcur⟩
      case round =>
        clear hi1 hJp hon hcur hn1 hm1 HQ
        obtain ⟨p, n', A', c', rfl, rfl, hn1, hm1, hq, hi1, hJp, hon, hcur⟩ := hrel
        by_cases hpos : 0 < n'
        · obtain ⟨b, off, rfl, hbN, hcc⟩ := hi1.2.2 hpos
          have hcw : ∀ i, i < n' → wr.cell? ⟨b, off + i, none⟩ = some (.int .u8 (((M.drop p).take n').getD i 0)) := fun i hi => hon.cell (p := ⟨b, off + i, none⟩) hbN (hcc i hi)
          obtain ⟨mm, hmm⟩ : ∃ mm, min n' (16 - p % 16) = mm := ⟨_, rfl⟩
          have hstep := cur_step (m := M) (p := p) (n := n') hmm.symm (by have := hq.out; omega)
          have hcl : (cur M p).length = 17 := cur_length (by have := hq.out; omega)
          have HXW := Lib.hid hi1.2.1
          have HCL := Lib.hid hcl
          have HXL := Lib.hid hi1.1
          have hf16 : p % 16 < 16 := Nat.mod_lt _ (by omega)
          have hmm1 : 0 < mm := by omega
          have hmm2 : mm ≤ n' := by omega
          have hmm3 : mm ≤ 16 - p % 16 := by omega
          have HMM := Lib.hid hmm
          clear hcl hmm hcc
          obtain ⟨f, hf⟩ : ∃ f, p % 16 = f := ⟨_, rfl⟩
          have HF := Lib.hid hf
          rw [hf] at hstep HMM hf16 hmm3 ⊢
          clear hf
          have HST := Lib.hid hstep
          clear hstep
          have hfi : (f : Int) < 16 := by omega
          have hmi : (mm : Int) ≤ 16 - (f : Int) := by omega
          have hmi0 : (0 : Int) < (mm : Int) := by omega
          have hfi0 : (0 : Int) ≤ (f : Int) := by omega
          have hmi2 : (mm : Int) ≤ (n' : Int) := by omega
          have hsl : ∀ W', (Instr.sliceAt 42 (.pointer (some ⟨W.heap.size, 0, none⟩)) (some (.int .i64 (f : Int))) (some (.int .i64 16)) none).run Tryd.prog W' = .ok (.slice (some ⟨W.heap.size, f, none⟩) (16 - f) (17 - f)) W' := fun W' => run_slice_arr_lh (P := Tryd.prog) 42 5 17 W.heap.size f 16 W' Tryd.underlying42 (by kernel_rfl) (by omega) (by omega) (by omega)
          have hcutN := hi1.cut hmm2 hn1
          rw [List.drop_take, List.drop_drop] at hcutN
          have HQ' := Lib.hid (show p + mm + (n' - mm) = q by have := hq.out; omega)
          have farN : ∀ {X Y : World} {row : Option Nat} {s}, J s X → X.grownBy Y row → (∀ r, row = some r → W.heap.size ≤ r) → J s Y := fun h1 h2 h3 => hJ _ _ _ _ h1 h2 h3
          by_cases hz : f + mm = 16
          · have hzi : (f : Int) + (mm : Int) = 16 := by omega
            have HZ0 := Lib.hid hz
            rw [if_pos hz] at HST
            have hfull := pieceAt_full (m := M) (k := p / 16) (by have := hq.out; have := HF.out; omega)
            have HFULL := Lib.hid hfull
            have hkc : p / 16 < count M := by unfold count; have := hq.out; have := HF.out; omega
            have HTK := Lib.hid (pieces_take M hkc)
            have HPL := Lib.hid (pieceAt_length M (p / 16))
            have HZ := Lib.hid (show (p + mm) % 16 = 0 by have := HF.out; omega)
            have HD := Lib.hid (show (p + mm) / 16 = p / 16 + 1 by have := HF.out; omega)
            have HCS := Lib.hid (cur_start M HZ.out)
            have HCH := Lib.hid (show (chunk M (p / 16) ++ [0]).length = 17 by rw [List.length_append, chunk_length]; have := hq.out; have := HF.out; simp; omega)
            clear hfull hz
            by_cases hcm : c' = mm
            · rw [if_pos hcm] at hcutN
              subst hcm
              have HQ0 := Lib.hid (show p + c' + 0 = q by have := hq.out; omega)
              have hz0 : IntsN w2 .u8 (fun b => S b ∨ b = W.heap.size) (some ⟨b, off, none⟩) 0 ((M.drop (p + c')).take 0) := ⟨by simp, by simp, fun h => absurd h (by omega)⟩
              gi_wp2_with (first
                | (refine wpListIn_copy_RowTo rfl _ _ 25 25 rfl 5 Tryd.underlying25 info_u8 W.heap.size f (16 - f) (17 - f) (some ⟨b, off, none⟩) n' c' rfl rfl 42 .u8 _ _ hcur (fun _ => ⟨b, off, rfl, hcw⟩) HXL.out HXW.out c' HMM.out.symm hmm1 (by rw [HCL.out]; omega) ?_; intro w3 r3 g3 z3; rw [HST.out] at r3)
                | (refine wpListIn_store_elem (w := w3) rfl 5 _ _ rfl W.heap.size 16 rfl 42 .u8 _ 1 rfl r3 (by rw [HCH.out]; omega) info_u8 rfl ?_; intro w4 r4 g4 z4; rw [HFULL.out] at r4; have J4 := farN (farN hJp g3 (fun r e => by cases e; exact Nat.le_refl _)) g4 (fun r e => by cases e; exact Nat.le_refl _); obtain ⟨fn, tmps, assign, body, hy, hR⟩ := hY _ (pieceAt M (p / 16)) _ J4 (by rw [HTK.out]; exact List.take_prefix _ _))
                | (refine wpListIn_load_Row (w := w4) rfl 42 _ rfl W.heap.size rfl 42 .u8 _ r4 17 5 Tryd.underlying42 info_17 HPL.out ?_))
              have o4 := (hon.trans (Only.of_grown g3 (fun r e => by cases e; exact .inr rfl))).trans (Only.of_grown g4 (fun r e => by cases e; exact .inr rfl))
              refine ⟨fun h => (by cases h), ?_⟩
              refine hR.mono ?_
              rintro e W4 ⟨rfl, J5, k5⟩
              have o5 := o4.trans (k5.mono (fun i e => .inl e))
              have r5 := k5.row hWS r4
              rw [HTK.out] at J5
              clear o4 J4 hR hy r3 g3 z3 r4 g4 z4 k5
              gi_wp2_with (first
                | (refine wpListIn_build_Row rfl 42 _ rfl .u8 (List.replicate 17 0) (by kernel_rfl) ?_)
                | (refine wpListIn_store_RowTo (w := W4) rfl 42 _ _ rfl W.heap.size rfl 42 .u8 _ (List.replicate 17 0) rfl r5 17 info_17 (by simp) HPL.out (zeros_wf .u8 17) ?_; intro w6 r6 g6 z6))
              have J6 := farN J5 g6 (fun r e => by cases e; exact Nat.le_refl _)
              have o6 := o5.trans (Only.of_grown g6 (fun r e => by cases e; exact .inr rfl))
              go_roundw
              case rel => exact ⟨p + c', 0, _, _, by rw [HZ.out]; rfl, rfl, by omega, by omega, HQ0, hz0, by rw [HD.out]; exact J6, o6, by rw [HCS.out]; exact r6⟩
              case measure => simp [lenV]; omega
            · rw [if_neg hcm] at hcutN
              gi_wp2_with (first
                | (refine wpListIn_copy_RowTo rfl _ _ 25 25 rfl 5 Tryd.underlying25 info_u8 W.heap.size f (16 - f) (17 - f) (some ⟨b, off, none⟩) n' c' rfl rfl 42 .u8 _ _ hcur (fun _ => ⟨b, off, rfl, hcw⟩) HXL.out HXW.out mm HMM.out.symm hmm1 (by rw [HCL.out]; omega) ?_; intro w3 r3 g3 z3; rw [HST.out] at r3)
                | (refine wpListIn_store_elem (w := w3) rfl 5 _ _ rfl W.heap.size 16 rfl 42 .u8 _ 1 rfl r3 (by rw [HCH.out]; omega) info_u8 rfl ?_; intro w4 r4 g4 z4; rw [HFULL.out] at r4; have J4 := farN (farN hJp g3 (fun r e => by cases e; exact Nat.le_refl _)) g4 (fun r e => by cases e; exact Nat.le_refl _); obtain ⟨fn, tmps, assign, body, hy, hR⟩ := hY _ (pieceAt M (p / 16)) _ J4 (by rw [HTK.out]; exact List.take_prefix _ _))
                | (refine wpListIn_load_Row (w := w4) rfl 42 _ rfl W.heap.size rfl 42 .u8 _ r4 17 5 Tryd.underlying42 info_17 HPL.out ?_))
              have o4 := (hon.trans (Only.of_grown g3 (fun r e => by cases e; exact .inr rfl))).trans (Only.of_grown g4 (fun r e => by cases e; exact .inr rfl))
              refine ⟨fun h => (by cases h), ?_⟩
              refine hR.mono ?_
              rintro e W4 ⟨rfl, J5, k5⟩
              have o5 := o4.trans (k5.mono (fun i e => .inl e))
              have r5 := k5.row hWS r4
              rw [HTK.out] at J5
              clear o4 J4 hR hy r3 g3 z3 r4 g4 z4 k5
              gi_wp2_with (first
                | (refine wpListIn_build_Row rfl 42 _ rfl .u8 (List.replicate 17 0) (by kernel_rfl) ?_)
                | (refine wpListIn_store_RowTo (w := W4) rfl 42 _ _ rfl W.heap.size rfl 42 .u8 _ (List.replicate 17 0) rfl r5 17 info_17 (by simp) HPL.out (zeros_wf .u8 17) ?_; intro w6 r6 g6 z6))
              have J6 := farN J5 g6 (fun r e => by cases e; exact Nat.le_refl _)
              have o6 := o5.trans (Only.of_grown g6 (fun r e => by cases e; exact .inr rfl))
              go_roundw
              case rel => exact ⟨p + mm, n' - mm, _, _, by rw [HZ.out]; rfl, rfl, by omega, by omega, HQ', hcutN, by rw [HD.out]; exact J6, o6, by rw [HCS.out]; exact r6⟩
              case measure => simp [lenV]; omega
          · have hzi : ¬ (f : Int) + (mm : Int) = 16 := by omega
            rw [if_neg hz] at HST
            have HE := Lib.hid (show (f : Int) + (mm : Int) = (((p + mm) % 16 : Nat) : Int) by have := HF.out; omega)
            have HD := Lib.hid (show (p + mm) / 16 = p / 16 by have := HF.out; omega)
            clear hz
            by_cases hcm : c' = mm
            · rw [if_pos hcm] at hcutN
              subst hcm
              have HQ0 := Lib.hid (show p + c' + 0 = q by have := hq.out; omega)
              have hz0 : IntsN w2 .u8 (fun b => S b ∨ b = W.heap.size) (some ⟨b, off, none⟩) 0 ((M.drop (p + c')).take 0) := ⟨by simp, by simp, fun h => absurd h (by omega)⟩
              gi_wp2_with (refine wpListIn_copy_RowTo rfl _ _ 25 25 rfl 5 Tryd.underlying25 info_u8 W.heap.size f (16 - f) (17 - f) (some ⟨b, off, none⟩) n' c' rfl rfl 42 .u8 _ _ hcur (fun _ => ⟨b, off, rfl, hcw⟩) HXL.out HXW.out c' HMM.out.symm hmm1 (by rw [HCL.out]; omega) ?_; intro w3 r3 g3 z3; rw [HST.out] at r3)
              have J4 := farN hJp g3 (fun r e => by cases e; exact Nat.le_refl _)
              have o4 := hon.trans (Only.of_grown g3 (fun r e => by cases e; exact .inr rfl))
              go_roundw
              case rel => exact ⟨p + c', 0, _, _, by rw [HE.out], rfl, by omega, by omega, HQ0, hz0, by rw [HD.out]; exact J4, o4, r3⟩
              case measure => simp [lenV]; omega
            · rw [if_neg hcm] at hcutN
              gi_wp2_with (refine wpListIn_copy_RowTo rfl _ _ 25 25 rfl 5 Tryd.underlying25 info_u8 W.heap.size f (16 - f) (17 - f) (some ⟨b, off, none⟩) n' c' rfl rfl 42 .u8 _ _ hcur (fun _ => ⟨b, off, rfl, hcw⟩) HXL.out HXW.out mm HMM.out.symm hmm1 (by rw [HCL.out]; omega) ?_; intro w3 r3 g3 z3; rw [HST.out] at r3)
              have J4 := farN hJp g3 (fun r e => by cases e; exact Nat.le_refl _)
              have o4 := hon.trans (Only.of_grown g3 (fun r e => by cases e; exact .inr rfl))
              go_roundw
              case rel => exact ⟨p + mm, n' - mm, _, _, by rw [HE.out], rfl, by omega, by omega, HQ', hcutN, by rw [HD.out]; exact J4, o4, r3⟩
              case measure => simp [lenV]; omega
        · have hn0 : n' = 0 := by omega
          subst hn0
          have hpq : Hid (p = q) := Lib.hid (by have := hq.out; omega)
          gi_wp2_with fail
          go_roundw
          case rel => exact ⟨k + 1, q, by omega, by go_num, HQ2, by rw [← hpq.out], by rw [← hpq.out]; exact hJp, hon, by rw [← hpq.out]; exact hcur⟩
          case measure => simp [intOf]; omega
    · have hkm : k = m := by omega
      subst hkm
      have hpe : p = M.length := by rw [hp.out, HEND.out]
      have HPE := Lib.hid hpe
      clear hpe hp hall
      by_cases hz : p % 16 = 0
      · have hall2 : (pieces M).take (p / 16) = pieces M := List.take_of_length_le (by rw [pieces_length]; unfold count; have := HPE.out; omega)
        have HA := Lib.hid hall2
        clear hall2
        gi_wp2_with fail
        go_end0
        exact ⟨⟨_, rfl⟩, by rw [HMX.out, ← HA.out]; exact hJp⟩
      · obtain ⟨f, hf⟩ : ∃ f, p % 16 = f := ⟨_, rfl⟩
        have hkc : p / 16 < count M := by unfold count; have := HPE.out; omega
        have hTK := pieces_take M hkc
        rw [List.take_of_length_le (i := p / 16 + 1) (by rw [pieces_length]; unfold count; have := HPE.out; omega)] at hTK
        have HTK := Lib.hid hTK
        have hlast := cur_last (m := M) (by rw [← HPE.out]; exact hz)
        rw [← HPE.out, hf] at hlast
        have HLAST := Lib.hid hlast
        have HCL := Lib.hid (show (cur M p).length = 17 from cur_length (by have := HPE.out; omega))
        have HPL := Lib.hid (pieceAt_length M (p / 16))
        have hf16 : f < 16 := by omega
        have hf0 : (0 : Int) < (f : Int) := by omega
        have hf17 : (f : Int) < 17 := by omega
        rw [hf]
        clear hf hz hlast hTK hkc
        gi_wp2_with (first
          | (refine wpListIn_store_elem (w := wr) rfl 5 _ _ rfl W.heap.size f rfl 42 .u8 _ 1 rfl hcur (by rw [HCL.out]; omega) info_u8 rfl ?_; intro w4 r4 g4 z4; rw [HLAST.out] at r4; have J4 := hJ _ _ _ _ hJp g4 (fun r e => by cases e; exact Nat.le_refl _); obtain ⟨fn, tmps, assign, body, hy, hR⟩ := hY _ (pieceAt M (p / 16)) _ J4 (by rw [HTK.out]; exact List.prefix_refl _))
          | (refine wpListIn_load_Row (w := w4) rfl 42 _ rfl W.heap.size rfl 42 .u8 _ r4 17 5 Tryd.underlying42 info_17 HPL.out ?_))
        refine ⟨fun h => (by cases h), ?_⟩
        refine hR.mono ?_
        rintro e W4 ⟨rfl, J5, k5⟩
        rw [HTK.out] at J5
        gi_wp2_with fail
        go_end0
        exact ⟨⟨_, rfl⟩, by rw [HMX.out]; exact J5⟩
end Go.Proofs.YtebkicikpeicmaaDoor.Po

