/-
  The document's own run of operations that may emit, by its contract.
-/
import Derived.Test.YtlinmcgmkpkpaaaDoorB22
import Derived.Test.YtlinmcgmkpkpaaaDoorB15
import Derived.Test.YtlinmcgmkpkpaaaDoorB21
set_option linter.unusedVariables false
namespace Go.Proofs.YtlinmcgmkpkpaaaDoor.Pi
open Go.RowKit Go.Shelf Go.Proofs.YtlinmcgmkpkpaaaDoor Mem Held Ct Rc Rs Sl Vm Mg Cn
attribute [local irreducible] wpList wpListIn Calls
theorem rdead_ok (w : World) : Calls Tryd.prog 37 #[] w fun e w' => e = .returned (.agg #[.bool true, .int .i64 0, .int .i64 0, .int .i64 0]) ∧ Below w.heap.size w w' := by
  go_enter Tryd.func37, Tryd.ntmps37
  go_wp2_with (first
    | (refine wpList_alloc_blk (w := w) rfl 51 rfl _ zero_rec ?_; intro w1 q1 g1 z1)
    | (refine wpList_build_blk rfl 51 _ rfl #[.bool true, .int .i64 0, .int .i64 0, .int .i64 0] (by kernel_rfl) ?_)
    | (refine wpList_store_blk (w := w1) rfl 51 _ _ rfl w.heap.size 4 rfl 51 _ #[.bool true, .int .i64 0, .int .i64 0, .int .i64 0] rfl q1 info_rec rfl rfl (by kernel_rfl) ?_; intro w2 q2 g2 z2))
  exact bodyPost_ret (results_blk rfl _ _ w.heap.size 4 _ _ rfl q2 _ Tryd.underlying51 rfl info_rec rfl) rfl ⟨rfl, ((Below.refl _ w).grown g1 (Nat.le_refl _) (by simp)).grown g2 g1.size (fun r e => by cases e; exact Nat.le_refl _)⟩
theorem wpList_store_ownL {α : Type} {k : St α} {P : Program} {ops : Array Oper} {rest : List Oper} {o : Oper} {a : Act} {w : World} {Q : Exit → Act → World → Prop} (hw : Region.wanted o (yielded ops a.tmps) = true) (ty : TypeId) (x y : Operand) (ho : o.op = .store ty x y) (base g n cap off j : Nat) (xs : List α) (f : α)
    (hoff : off = j * k.s) (hx : a.eval x = .pointer (some ⟨g, off, none⟩)) (hy : a.eval y = .agg (k.cells f).toArray) (hown : OwnL k ty w base (.slice (some ⟨g, 0, none⟩) n cap) xs) (hj : j < xs.length) (hsz : (P.info? ty).map (·.size) = some k.s)
    (h : ∀ w', OwnL k ty w' base (.slice (some ⟨g, 0, none⟩) n cap) (xs.set j f) → w.grownBy w' (some g) → wpList P ops Q rest (a.put o.dst undef) w') : wpList P ops Q (o :: rest) a w := by
  subst hoff
  refine wpList_step fun _ hK => ?_
  rw [if_pos hw]
  obtain ⟨h1, h2⟩ := own_set f hown hj
  exact wp_store_mid ty x y ho g (j * k.s) (k.cells f).toArray hx hy h1 (by rw [hsz, List.size_toArray, k.len]) (all_oneCell_toArray (k.one f)) (hK _ _ (h _ h2 (grown_setCells _ _ _ _)))
theorem step_plain {code rd ra rb rc nn : Int} (first : Int) (r : List Int) (out : List R) (h : code ≠ 12) : stepOut first ⟨code, rd, ra, rb, rc, nn⟩ r out = out := by
  rw [stepOut, if_neg (by dsimp only; exact h)]
set_option maxRecDepth 100000 in
set_option maxHeartbeats 32000000 in
theorem rrunm_any (B base : Nat) (A : Option Addr) (n c : Nat) (xs : List O) (rs0 : List Int) (go K co : Nat) (outs : List R) (first : Int) (w : World) (h : Lst kO w B A n xs) (hB : B ≤ base) (hbase : base ≤ w.heap.size) (h8 : rs0.length = 8) (hf : Fit rs0) (hm : ∀ x ∈ xs, mayO x (K : Int) = true) (hn : n ≤ 1048576) (ho : OwnL kRec 51 w base (.slice (some ⟨go, 0, none⟩) K co) outs) :
    Calls Tryd.prog 38 #[.slice A n c, .agg (arr .i64 rs0), .slice (some ⟨go, 0, none⟩) K co, .int .i64 first] w fun e w' => e = .returned (.tuple #[.agg (arr .i64 (runR xs rs0)), .slice (some ⟨go, 0, none⟩) K co]) ∧ OwnL kRec 51 w' base (.slice (some ⟨go, 0, none⟩) K co) (runOut first xs rs0 outs) ∧ Below base w w' := by
  have HL := Lib.hid h.1
  have HRL := Lib.hid (fun l => (runR_length l rs0).trans h8)
  have HRF := Lib.hid (fun i => Fit.run hf (l := xs.take i) (fun o ho => h.2.1 o (List.mem_of_mem_take ho)))
  have HMX := Lib.hid (fun i (hi : i < n) => hm (xs.getD i O0) (by rw [List.getD_eq_getElem?_getD, List.getElem?_eq_getElem (by rw [h.1]; exact hi)]; exact List.getElem_mem _))
  have HSN := Lib.hid (fun i (hi : i < n) => show runR (xs.take (i + 1)) rs0 = stepR (xs.getD i O0) (runR (xs.take i) rs0) by
    have hi' : i < xs.length := by rw [h.1]; exact hi
    rw [List.take_add_one, List.getElem?_eq_getElem hi', runR_append, List.getD_eq_getElem?_getD, List.getElem?_eq_getElem hi']
    rfl)
  have HSO := Lib.hid (fun i (hi : i < n) => show runOut first (xs.take (i + 1)) rs0 outs = stepOut first (xs.getD i O0) (runR (xs.take i) rs0) (runOut first (xs.take i) rs0 outs) by
    have hi' : i < xs.length := by rw [h.1]; exact hi
    rw [List.take_add_one, List.getElem?_eq_getElem hi', runOut_append, List.getD_eq_getElem?_getD, List.getElem?_eq_getElem hi']
    rfl)
  have HLO := Lib.hid (fun l => (runOut_length first l rs0 outs).trans (OwnL.form ho |> fun ⟨_, _, e, _⟩ => by injection e with _ e2; exact e2.symm : outs.length = K))
  have HGO := Lib.hid (show (Value.slice (some ⟨go, 0, none⟩) K co).ownBlock ≠ some w.heap.size from fun e => by have := (OwnL.lt ho _ e).2; omega)
  have HGO1 := Lib.hid (show go < w.heap.size from (OwnL.lt ho go rfl).2)
  have HGB := Lib.hid (show base ≤ go from (OwnL.lt ho go rfl).1)
  clear hm
  go_enter Tryd.func38, Tryd.ntmps38
  go_wp2_with (first
    | (refine wpList_box_Row (w := w) rfl 75 _ rfl .i64 rs0 rfl hf ?_; intro u1 r1 g1 z1)
    | (refine wpList_alloc_Row (w := u1) rfl 75 rfl .i64 8 zero_regs ?_; intro u2 r2 g2 z2))
  have b2 : Below w.heap.size w u2 := ((Below.refl _ w).grown g1 (Nat.le_refl _) (by simp)).grown g2 g1.size (by simp)
  have l1 : w.heap.size < u1.heap.size := r1.lt
  have o2 := OwnL.below ho b2
  have r1 := r1.grown g2 (by simp)
  clear g1 g2 z1 z2 hf h8
  go_loopw [10] (fun t wr => ∃ i : Nat, i ≤ n ∧ t = .int .i64 i ∧ Row wr w.heap.size 75 .i64 (runR (xs.take i) rs0) ∧ Row wr u1.heap.size 75 .i64 (List.replicate 8 0) ∧ OwnL kRec 51 wr base (.slice (some ⟨go, 0, none⟩) K co) (runOut first (xs.take i) rs0 outs) ∧ Below base w wr) (fun t _ => n - (intOf t).toNat)
  case atStart => exact ⟨0, by omega, rfl, r1, r2, o2, b2.mono hbase⟩
  case round =>
    clear r1 r2 b2 o2
    obtain ⟨i, hi, rfl, qr, q2, qo, bw⟩ := hrel
    by_cases hlt : i < n
    · obtain ⟨b, off, rfl, hb1, hx⟩ := (h.below (bw.mono hB)).at_ hlt
      have hx : wr.rangeAt b (off + i * 6) (xs.getD i O0).cells := hx
      have hwo : (xs.getD i O0).wf := h.wf_at hlt
      obtain ⟨hc1, hc12, ⟨hd0, hd8⟩, ⟨ha0, ha8⟩, ⟨hb0, hb8⟩, ⟨hcc0, hcc8⟩, he⟩ := mayO_says (HMX.out i hlt)
      have HNX := Lib.hid (HSN.out i hlt)
      have HFT := HRF.out i
      have HL8 := Lib.hid (HRL.out (xs.take i))
      have HNO2 := Lib.hid (HSO.out i hlt)
      have HOL := Lib.hid (HLO.out (xs.take i))
      generalize runR (xs.take i) rs0 = zs at qr HNX HFT HL8 HNO2
      generalize runOut first (xs.take i) rs0 outs = outz at qo HNO2 HOL
      generalize xs.getD i O0 = x at *
      obtain ⟨code, rd, ra, rb, rc, nn⟩ := x
      dsimp only at *
      have hnn : (Lit.int .i64 nn).wf = true := hwo.2.2.2.2.2
      clear hwo
      obtain ⟨rd, rfl⟩ := Int.eq_ofNat_of_zero_le hd0
      obtain ⟨ra, rfl⟩ := Int.eq_ofNat_of_zero_le ha0
      obtain ⟨rb, rfl⟩ := Int.eq_ofNat_of_zero_le hb0
      obtain ⟨rc, rfl⟩ := Int.eq_ofNat_of_zero_le hcc0
      have hrd : rd < 8 := by omega
      have hra : ra < 8 := by omega
      have hrb : rb < 8 := by omega
      have hrc : rc < 8 := by omega
      have hx : wr.rangeAt b (off + i * 6) [.int .i64 code, .int .i64 (rd : Int), .int .i64 (ra : Int), .int .i64 (rb : Int), .int .i64 (rc : Int), .int .i64 nn] := hx
      obtain ⟨a, hae⟩ : ∃ a, zs.getD ra 0 = a := ⟨_, rfl⟩
      obtain ⟨bv, hbe⟩ : ∃ bv, zs.getD rb 0 = bv := ⟨_, rfl⟩
      obtain ⟨cv, hce⟩ : ∃ cv, zs.getD rc 0 = cv := ⟨_, rfl⟩
      have hav : (Lit.int .i64 a).wf = true := hae ▸ HFT.at_ ra
      have hbv : (Lit.int .i64 bv).wf = true := hbe ▸ HFT.at_ rb
      have hcv : (Lit.int .i64 cv).wf = true := hce ▸ HFT.at_ rc
      have HS := Lib.hid (fun j (hj : code = j) (hj12 : code ≠ 12) => show stepR ⟨code, rd, ra, rb, rc, nn⟩ zs = zs.set rd (opV ⟨j, rd, ra, rb, rc, nn⟩ a bv cv) by
        rw [stepR, if_neg (by dsimp only; exact hj12), ← hj]
        dsimp only
        rw [reg, reg, reg, Int.toNat_natCast, Int.toNat_natCast, Int.toNat_natCast, Int.toNat_natCast, hae, hbe, hce])
      have HS12 := Lib.hid (fun (hj : code = 12) => show stepR ⟨code, rd, ra, rb, rc, nn⟩ zs = zs by rw [stepR, if_pos (by dsimp only; exact hj)])
      have HNE := Lib.hid (fun (hj : code ≠ 12) => HNO2.out.trans (step_plain first zs outz hj))
      have HN12 := Lib.hid (fun (hj : code = 12) => show runOut first (xs.take (i + 1)) rs0 outs = outz.set nn.toNat (if cv = 0 then RD else ⟨false, a, bv, wrap64 (first + nn)⟩) by
        rw [HNO2.out, stepOut, if_pos (by dsimp only; exact hj), emitR]
        dsimp only
        rw [reg, reg, reg, Int.toNat_natCast, Int.toNat_natCast, Int.toNat_natCast, hae, hbe, hce])
      have Hra := Lib.hid hae
      have Hrb := Lib.hid hbe
      have Hrc := Lib.hid hce
      have hww : w.heap.size < wr.heap.size := qr.lt
      have HOW := Lib.hid (fun X (hX : Below wr.heap.size wr X) => OwnL.below qo hX)
      have HBW := Lib.hid (fun X (hX : Below wr.heap.size wr X) => bw.trans (hX.mono (Nat.le_trans hbase bw.size)))
      have HBQ := Lib.hid (fun X (hX : Below wr.heap.size wr X) => q2.below hX q2.lt)
      have hlt' : (i : Int) < (n : Int) := by omega
      have hi0 : (0 : Int) ≤ (i : Int) := by omega
      clear hd0 hd8 ha0 ha8 hb0 hb8 hcc0 hcc8 hae hbe hce HFT bw q2 qo HNO2
      go_wp2_with (first
        | (refine wpList_run (w := wr) rfl (v := .pointer (some ⟨b, off + i * 6, none⟩)) (Held.y_addr (S := fun _ => True) rfl rfl rfl (run_addr_of (P := Tryd.prog) 24 58 b off n c i 6 .i64 Tryd.underlying24 size_op hlt) _ trivial) ?_)
        | (refine wpList_run (w := wr) rfl (v := .agg #[.int .i64 code, .int .i64 (rd : Int), .int .i64 (ra : Int), .int .i64 (rb : Int), .int .i64 (rc : Int), .int .i64 nn]) (y_load_range (S := fun W => W = wr) (n := 6) (cs := [.int .i64 code, .int .i64 (rd : Int), .int .i64 (ra : Int), .int .i64 (rb : Int), .int .i64 (rc : Int), .int .i64 nn]) rfl rfl Tryd.underlying58 rfl size_op rfl (fun W hW => by rw [hW]; exact hx) _ rfl) ?_)
        | (refine wpList_alloc_blk (w := wr) rfl 58 rfl _ zero_op ?_; intro v2 q2 g2 z2)
        | (refine wpList_store_blk (w := v2) rfl 58 _ _ rfl wr.heap.size 6 rfl 58 _ #[.int .i64 code, .int .i64 (rd : Int), .int .i64 (ra : Int), .int .i64 (rb : Int), .int .i64 (rc : Int), .int .i64 nn] rfl q2 size_op rfl rfl (by kernel_rfl) ?_; intro w8 q8 g3 z3; have b8 : Below wr.heap.size wr w8 := ((Below.refl _ wr).grown g2 (Nat.le_refl _) (by simp)).grown g3 g2.size (fun r e => by cases e; exact Nat.le_refl _); clear g2 g3 z2 z3 q2))
      have qr8 := qr.below b8 qr.lt
      have hr8 := q8.lt
      refine wp_region_held (S := fun W => Below w8.heap.size w8 W) (by kernel_rfl) ?_
      change wpAnyH _ _ _ _ _ _ _ _ w8.drew
      have c0_0 := (Below.refl w8.heap.size w8).drew
      refine Held.tk (v := .pointer (some ⟨wr.heap.size, 2, none⟩)) 0 (some 25) rfl (Held.y_field (k := 2) (s := 0) rfl rfl Tryd.underlying58 rfl (by kernel_rfl) rfl) c0_0 ?_
      simp only [Act.put, Z1, Z2, Z3]
      refine Held.tk (v := .int .i64 (ra : Int)) 1 (some 26) rfl (Held.y_load rfl rfl (by kernel_rfl) (fun X hX => (q8.below hX hr8).cell (i := 2) rfl)) c0_0 ?_
      simp only [Act.put, Z1, Z2, Z3]
      refine Held.tk (v := .pointer (some ⟨w.heap.size, ra, none⟩)) 2 (some 27) rfl (Held.y_addr rfl rfl rfl (Held.run_addr_arr 75 2 8 w.heap.size ra .i64 Tryd.underlying75 (by kernel_rfl) hra)) c0_0 ?_
      simp only [Act.put, Z1, Z2, Z3]
      refine Held.tk (v := .int .i64 a) 3 (some 28) rfl (Held.y_load rfl rfl (by kernel_rfl) (fun X hX => by rw [← Hra.out]; exact (qr8.below hX qr8.lt).cell (by rw [HL8.out]; exact hra))) c0_0 ?_
      simp only [Act.put, Z1, Z2, Z3]
      refine Held.tk (v := .pointer (some ⟨wr.heap.size, 3, none⟩)) 4 (some 29) rfl (Held.y_field (k := 3) (s := 0) rfl rfl Tryd.underlying58 rfl (by kernel_rfl) rfl) c0_0 ?_
      simp only [Act.put, Z1, Z2, Z3]
      refine Held.tk (v := .int .i64 (rb : Int)) 5 (some 30) rfl (Held.y_load rfl rfl (by kernel_rfl) (fun X hX => (q8.below hX hr8).cell (i := 3) rfl)) c0_0 ?_
      simp only [Act.put, Z1, Z2, Z3]
      refine Held.tk (v := .pointer (some ⟨w.heap.size, rb, none⟩)) 6 (some 31) rfl (Held.y_addr rfl rfl rfl (Held.run_addr_arr 75 2 8 w.heap.size rb .i64 Tryd.underlying75 (by kernel_rfl) hrb)) c0_0 ?_
      simp only [Act.put, Z1, Z2, Z3]
      refine Held.tk (v := .int .i64 bv) 7 (some 32) rfl (Held.y_load rfl rfl (by kernel_rfl) (fun X hX => by rw [← Hrb.out]; exact (qr8.below hX qr8.lt).cell (by rw [HL8.out]; exact hrb))) c0_0 ?_
      simp only [Act.put, Z1, Z2, Z3]
      refine Held.tk (v := .pointer (some ⟨wr.heap.size, 4, none⟩)) 8 (some 33) rfl (Held.y_field (k := 4) (s := 0) rfl rfl Tryd.underlying58 rfl (by kernel_rfl) rfl) c0_0 ?_
      simp only [Act.put, Z1, Z2, Z3]
      refine Held.tk (v := .int .i64 (rc : Int)) 9 (some 34) rfl (Held.y_load rfl rfl (by kernel_rfl) (fun X hX => (q8.below hX hr8).cell (i := 4) rfl)) c0_0 ?_
      simp only [Act.put, Z1, Z2, Z3]
      refine Held.tk (v := .pointer (some ⟨w.heap.size, rc, none⟩)) 10 (some 35) rfl (Held.y_addr rfl rfl rfl (Held.run_addr_arr 75 2 8 w.heap.size rc .i64 Tryd.underlying75 (by kernel_rfl) hrc)) c0_0 ?_
      simp only [Act.put, Z1, Z2, Z3]
      refine Held.tk (v := .int .i64 cv) 11 (some 36) rfl (Held.y_load rfl rfl (by kernel_rfl) (fun X hX => by rw [← Hrc.out]; exact (qr8.below hX qr8.lt).cell (by rw [HL8.out]; exact hrc))) c0_0 ?_
      simp only [Act.put, Z1, Z2, Z3]
      refine Held.tk (v := .int .i64 a) 12 (some 12) rfl (Held.y_assign rfl rfl) c0_0 ?_
      simp only [Act.put, Z1, Z2, Z3]
      refine Held.tk (v := .int .i64 bv) 13 (some 13) rfl (Held.y_assign rfl rfl) c0_0 ?_
      simp only [Act.put, Z1, Z2, Z3]
      refine Held.tk (v := .int .i64 cv) 14 (some 14) rfl (Held.y_assign rfl rfl) c0_0 ?_
      simp only [Act.put, Z1, Z2, Z3]
      refine wpAnyH_done (by kernel_rfl) ?_ _
      have q9 := q8.below c0_0 hr8
      have qr9 := qr8.below c0_0 qr8.lt
      have b9 := b8.trans (c0_0.mono b8.size)
      generalize w8.drew = w9 at q9 qr9 b9 ⊢
      clear q8 qr8 c0_0 b8 hx qr
      have d0 := q9.cell (i := 0) rfl
      have d1 := q9.cell (i := 1) rfl
      have d5 := q9.cell (i := 5) rfl
      rcases (show code = 1 ∨ code = 2 ∨ code = 3 ∨ code = 4 ∨ code = 5 ∨ code = 6 ∨ code = 7 ∨ code = 8 ∨ code = 9 ∨ code = 10 ∨ code = 11 ∨ code = 12 by omega) with rfl | rfl | rfl | rfl | rfl | rfl | rfl | rfl | rfl | rfl | rfl | rfl
      · have HST := Lib.hid (HS.out 1 rfl (by decide))
        have HNO := Lib.hid (HNE.out (by decide))
        clear HS HS12 HNE HN12 he
        have HZW := Lib.hid hnn
        have HST := Lib.hid (HST.out.trans (show zs.set rd (opV ⟨1, rd, ra, rb, rc, nn⟩ a bv cv) = zs.set rd nn from rfl))
        go_wp2_with (first
          | (refine wpList_run (w := w9) rfl (v := .pointer (some ⟨wr.heap.size, 0, none⟩)) (Held.y_field (S := fun _ => True) (k := 0) (s := 0) rfl rfl Tryd.underlying58 rfl (by kernel_rfl) rfl _ trivial) ?_)
          | (refine wpList_run (w := w9) rfl (v := .pointer (some ⟨wr.heap.size, 1, none⟩)) (Held.y_field (S := fun _ => True) (k := 1) (s := 0) rfl rfl Tryd.underlying58 rfl (by kernel_rfl) rfl _ trivial) ?_)
          | (refine wpList_run (w := w9) rfl (v := .pointer (some ⟨wr.heap.size, 5, none⟩)) (Held.y_field (S := fun _ => True) (k := 5) (s := 0) rfl rfl Tryd.underlying58 rfl (by kernel_rfl) rfl _ trivial) ?_)
          | (refine wpList_run (w := w9) rfl (v := .pointer (some ⟨w.heap.size, rd, none⟩)) (Held.y_addr (S := fun _ => True) rfl rfl rfl (Held.run_addr_arr (P := Tryd.prog) 75 2 8 w.heap.size rd .i64 Tryd.underlying75 (by kernel_rfl) hrd) _ trivial) ?_)
          | (refine wpList_store_elem (w := w9) rfl 2 _ _ rfl w.heap.size rd rfl 75 .i64 _ nn rfl qr9 (by rw [HL8.out]; exact hrd) size_i64 HZW.out ?_; intro w10 qz g10 z10))
        have c10 := (HBW.out _ b9).grown g10 (Nat.le_trans hbase (HBW.out _ b9).size) (fun r ee => by cases ee; exact hbase)
        have q10 := (HBQ.out _ b9).grown g10 (by intro ee; injection ee with ee; omega)
        have o10 := OwnL.kept (HOW.out _ b9) g10 (.inr HGO.out)
        go_roundw
        case rel => exact ⟨i + 1, by omega, by go_num, by rw [HNX.out, HST.out]; exact qz, q10, by rw [HNO.out]; exact o10, c10⟩
        case measure => simp [intOf]; omega
      · have HST := Lib.hid (HS.out 2 rfl (by decide))
        have HNO := Lib.hid (HNE.out (by decide))
        clear HS HS12 HNE HN12 he
        obtain ⟨z, hz⟩ : ∃ z, IntKind.i64.wrap (a + bv) = z := ⟨_, rfl⟩
        have HZ := Lib.hid hz
        have HZW := Lib.hid (show (Lit.int .i64 z).wf = true from hz ▸ i64_wf _)
        have HST := Lib.hid (HST.out.trans (show zs.set rd (opV ⟨2, rd, ra, rb, rc, nn⟩ a bv cv) = zs.set rd z by rw [← hz, w64]; rfl))
        clear hz
        go_wp2_with (first
          | (refine wpList_run (w := w9) rfl (v := .pointer (some ⟨wr.heap.size, 0, none⟩)) (Held.y_field (S := fun _ => True) (k := 0) (s := 0) rfl rfl Tryd.underlying58 rfl (by kernel_rfl) rfl _ trivial) ?_)
          | (refine wpList_run (w := w9) rfl (v := .pointer (some ⟨wr.heap.size, 1, none⟩)) (Held.y_field (S := fun _ => True) (k := 1) (s := 0) rfl rfl Tryd.underlying58 rfl (by kernel_rfl) rfl _ trivial) ?_)
          | (refine wpList_run (w := w9) rfl (v := .pointer (some ⟨wr.heap.size, 5, none⟩)) (Held.y_field (S := fun _ => True) (k := 5) (s := 0) rfl rfl Tryd.underlying58 rfl (by kernel_rfl) rfl _ trivial) ?_)
          | (refine wpList_run (w := w9) rfl (v := .int .i64 z) (Held.y_int (S := fun _ => True) rfl rfl rfl (Held.run_add 2 .i64 HZ.out) _ trivial) ?_)
          | (refine wpList_run (w := w9) rfl (v := .pointer (some ⟨w.heap.size, rd, none⟩)) (Held.y_addr (S := fun _ => True) rfl rfl rfl (Held.run_addr_arr (P := Tryd.prog) 75 2 8 w.heap.size rd .i64 Tryd.underlying75 (by kernel_rfl) hrd) _ trivial) ?_)
          | (refine wpList_store_elem (w := w9) rfl 2 _ _ rfl w.heap.size rd rfl 75 .i64 _ z rfl qr9 (by rw [HL8.out]; exact hrd) size_i64 HZW.out ?_; intro w10 qz g10 z10))
        have c10 := (HBW.out _ b9).grown g10 (Nat.le_trans hbase (HBW.out _ b9).size) (fun r ee => by cases ee; exact hbase)
        have q10 := (HBQ.out _ b9).grown g10 (by intro ee; injection ee with ee; omega)
        have o10 := OwnL.kept (HOW.out _ b9) g10 (.inr HGO.out)
        go_roundw
        case rel => exact ⟨i + 1, by omega, by go_num, by rw [HNX.out, HST.out]; exact qz, q10, by rw [HNO.out]; exact o10, c10⟩
        case measure => simp [intOf]; omega
      · have HST := Lib.hid (HS.out 3 rfl (by decide))
        have HNO := Lib.hid (HNE.out (by decide))
        clear HS HS12 HNE HN12 he
        obtain ⟨z, hz⟩ : ∃ z, IntKind.i64.wrap (a - bv) = z := ⟨_, rfl⟩
        have HZ := Lib.hid hz
        have HZW := Lib.hid (show (Lit.int .i64 z).wf = true from hz ▸ i64_wf _)
        have HST := Lib.hid (HST.out.trans (show zs.set rd (opV ⟨3, rd, ra, rb, rc, nn⟩ a bv cv) = zs.set rd z by rw [← hz, w64]; rfl))
        clear hz
        go_wp2_with (first
          | (refine wpList_run (w := w9) rfl (v := .pointer (some ⟨wr.heap.size, 0, none⟩)) (Held.y_field (S := fun _ => True) (k := 0) (s := 0) rfl rfl Tryd.underlying58 rfl (by kernel_rfl) rfl _ trivial) ?_)
          | (refine wpList_run (w := w9) rfl (v := .pointer (some ⟨wr.heap.size, 1, none⟩)) (Held.y_field (S := fun _ => True) (k := 1) (s := 0) rfl rfl Tryd.underlying58 rfl (by kernel_rfl) rfl _ trivial) ?_)
          | (refine wpList_run (w := w9) rfl (v := .pointer (some ⟨wr.heap.size, 5, none⟩)) (Held.y_field (S := fun _ => True) (k := 5) (s := 0) rfl rfl Tryd.underlying58 rfl (by kernel_rfl) rfl _ trivial) ?_)
          | (refine wpList_run (w := w9) rfl (v := .int .i64 z) (Held.y_int (S := fun _ => True) rfl rfl rfl (Held.run_sub 2 .i64 HZ.out) _ trivial) ?_)
          | (refine wpList_run (w := w9) rfl (v := .pointer (some ⟨w.heap.size, rd, none⟩)) (Held.y_addr (S := fun _ => True) rfl rfl rfl (Held.run_addr_arr (P := Tryd.prog) 75 2 8 w.heap.size rd .i64 Tryd.underlying75 (by kernel_rfl) hrd) _ trivial) ?_)
          | (refine wpList_store_elem (w := w9) rfl 2 _ _ rfl w.heap.size rd rfl 75 .i64 _ z rfl qr9 (by rw [HL8.out]; exact hrd) size_i64 HZW.out ?_; intro w10 qz g10 z10))
        have c10 := (HBW.out _ b9).grown g10 (Nat.le_trans hbase (HBW.out _ b9).size) (fun r ee => by cases ee; exact hbase)
        have q10 := (HBQ.out _ b9).grown g10 (by intro ee; injection ee with ee; omega)
        have o10 := OwnL.kept (HOW.out _ b9) g10 (.inr HGO.out)
        go_roundw
        case rel => exact ⟨i + 1, by omega, by go_num, by rw [HNX.out, HST.out]; exact qz, q10, by rw [HNO.out]; exact o10, c10⟩
        case measure => simp [intOf]; omega
      · have HST := Lib.hid (HS.out 4 rfl (by decide))
        have HNO := Lib.hid (HNE.out (by decide))
        clear HS HS12 HNE HN12 he
        obtain ⟨z, hz⟩ : ∃ z, IntKind.i64.wrap (a * bv) = z := ⟨_, rfl⟩
        have HZ := Lib.hid hz
        have HZW := Lib.hid (show (Lit.int .i64 z).wf = true from hz ▸ i64_wf _)
        have HST := Lib.hid (HST.out.trans (show zs.set rd (opV ⟨4, rd, ra, rb, rc, nn⟩ a bv cv) = zs.set rd z by rw [← hz, w64]; rfl))
        clear hz
        go_wp2_with (first
          | (refine wpList_run (w := w9) rfl (v := .pointer (some ⟨wr.heap.size, 0, none⟩)) (Held.y_field (S := fun _ => True) (k := 0) (s := 0) rfl rfl Tryd.underlying58 rfl (by kernel_rfl) rfl _ trivial) ?_)
          | (refine wpList_run (w := w9) rfl (v := .pointer (some ⟨wr.heap.size, 1, none⟩)) (Held.y_field (S := fun _ => True) (k := 1) (s := 0) rfl rfl Tryd.underlying58 rfl (by kernel_rfl) rfl _ trivial) ?_)
          | (refine wpList_run (w := w9) rfl (v := .pointer (some ⟨wr.heap.size, 5, none⟩)) (Held.y_field (S := fun _ => True) (k := 5) (s := 0) rfl rfl Tryd.underlying58 rfl (by kernel_rfl) rfl _ trivial) ?_)
          | (refine wpList_run (w := w9) rfl (v := .int .i64 z) (Held.y_int (S := fun _ => True) rfl rfl rfl (Held.run_mul 2 .i64 HZ.out) _ trivial) ?_)
          | (refine wpList_run (w := w9) rfl (v := .pointer (some ⟨w.heap.size, rd, none⟩)) (Held.y_addr (S := fun _ => True) rfl rfl rfl (Held.run_addr_arr (P := Tryd.prog) 75 2 8 w.heap.size rd .i64 Tryd.underlying75 (by kernel_rfl) hrd) _ trivial) ?_)
          | (refine wpList_store_elem (w := w9) rfl 2 _ _ rfl w.heap.size rd rfl 75 .i64 _ z rfl qr9 (by rw [HL8.out]; exact hrd) size_i64 HZW.out ?_; intro w10 qz g10 z10))
        have c10 := (HBW.out _ b9).grown g10 (Nat.le_trans hbase (HBW.out _ b9).size) (fun r ee => by cases ee; exact hbase)
        have q10 := (HBQ.out _ b9).grown g10 (by intro ee; injection ee with ee; omega)
        have o10 := OwnL.kept (HOW.out _ b9) g10 (.inr HGO.out)
        go_roundw
        case rel => exact ⟨i + 1, by omega, by go_num, by rw [HNX.out, HST.out]; exact qz, q10, by rw [HNO.out]; exact o10, c10⟩
        case measure => simp [intOf]; omega
      · have HST := Lib.hid (HS.out 5 rfl (by decide))
        have HNO := Lib.hid (HNE.out (by decide))
        clear HS HS12 HNE HN12 he
        obtain ⟨z, hz⟩ : ∃ z, bits .and .i64 a bv = z := ⟨_, rfl⟩
        have HZ := Lib.hid hz
        have HZW := Lib.hid (show (Lit.int .i64 z).wf = true from hz ▸ bits_wf' _ (.inl rfl) _ _)
        have HST := Lib.hid (HST.out.trans (show zs.set rd (opV ⟨5, rd, ra, rb, rc, nn⟩ a bv cv) = zs.set rd z by rw [← hz]; rfl))
        clear hz
        go_wp2_with (first
          | (refine wpList_run (w := w9) rfl (v := .pointer (some ⟨wr.heap.size, 0, none⟩)) (Held.y_field (S := fun _ => True) (k := 0) (s := 0) rfl rfl Tryd.underlying58 rfl (by kernel_rfl) rfl _ trivial) ?_)
          | (refine wpList_run (w := w9) rfl (v := .pointer (some ⟨wr.heap.size, 1, none⟩)) (Held.y_field (S := fun _ => True) (k := 1) (s := 0) rfl rfl Tryd.underlying58 rfl (by kernel_rfl) rfl _ trivial) ?_)
          | (refine wpList_run (w := w9) rfl (v := .pointer (some ⟨wr.heap.size, 5, none⟩)) (Held.y_field (S := fun _ => True) (k := 5) (s := 0) rfl rfl Tryd.underlying58 rfl (by kernel_rfl) rfl _ trivial) ?_)
          | (refine wpList_run (w := w9) rfl (v := .int .i64 z) (Held.y_int (S := fun _ => True) rfl rfl rfl (Held.run_bitop (by simp) 2 .i64 HZ.out) _ trivial) ?_)
          | (refine wpList_run (w := w9) rfl (v := .pointer (some ⟨w.heap.size, rd, none⟩)) (Held.y_addr (S := fun _ => True) rfl rfl rfl (Held.run_addr_arr (P := Tryd.prog) 75 2 8 w.heap.size rd .i64 Tryd.underlying75 (by kernel_rfl) hrd) _ trivial) ?_)
          | (refine wpList_store_elem (w := w9) rfl 2 _ _ rfl w.heap.size rd rfl 75 .i64 _ z rfl qr9 (by rw [HL8.out]; exact hrd) size_i64 HZW.out ?_; intro w10 qz g10 z10))
        have c10 := (HBW.out _ b9).grown g10 (Nat.le_trans hbase (HBW.out _ b9).size) (fun r ee => by cases ee; exact hbase)
        have q10 := (HBQ.out _ b9).grown g10 (by intro ee; injection ee with ee; omega)
        have o10 := OwnL.kept (HOW.out _ b9) g10 (.inr HGO.out)
        go_roundw
        case rel => exact ⟨i + 1, by omega, by go_num, by rw [HNX.out, HST.out]; exact qz, q10, by rw [HNO.out]; exact o10, c10⟩
        case measure => simp [intOf]; omega
      · have HST := Lib.hid (HS.out 6 rfl (by decide))
        have HNO := Lib.hid (HNE.out (by decide))
        clear HS HS12 HNE HN12 he
        obtain ⟨z, hz⟩ : ∃ z, bits .or .i64 a bv = z := ⟨_, rfl⟩
        have HZ := Lib.hid hz
        have HZW := Lib.hid (show (Lit.int .i64 z).wf = true from hz ▸ bits_wf' _ (.inr (.inl rfl)) _ _)
        have HST := Lib.hid (HST.out.trans (show zs.set rd (opV ⟨6, rd, ra, rb, rc, nn⟩ a bv cv) = zs.set rd z by rw [← hz]; rfl))
        clear hz
        go_wp2_with (first
          | (refine wpList_run (w := w9) rfl (v := .pointer (some ⟨wr.heap.size, 0, none⟩)) (Held.y_field (S := fun _ => True) (k := 0) (s := 0) rfl rfl Tryd.underlying58 rfl (by kernel_rfl) rfl _ trivial) ?_)
          | (refine wpList_run (w := w9) rfl (v := .pointer (some ⟨wr.heap.size, 1, none⟩)) (Held.y_field (S := fun _ => True) (k := 1) (s := 0) rfl rfl Tryd.underlying58 rfl (by kernel_rfl) rfl _ trivial) ?_)
          | (refine wpList_run (w := w9) rfl (v := .pointer (some ⟨wr.heap.size, 5, none⟩)) (Held.y_field (S := fun _ => True) (k := 5) (s := 0) rfl rfl Tryd.underlying58 rfl (by kernel_rfl) rfl _ trivial) ?_)
          | (refine wpList_run (w := w9) rfl (v := .int .i64 z) (Held.y_int (S := fun _ => True) rfl rfl rfl (Held.run_bitop (by simp) 2 .i64 HZ.out) _ trivial) ?_)
          | (refine wpList_run (w := w9) rfl (v := .pointer (some ⟨w.heap.size, rd, none⟩)) (Held.y_addr (S := fun _ => True) rfl rfl rfl (Held.run_addr_arr (P := Tryd.prog) 75 2 8 w.heap.size rd .i64 Tryd.underlying75 (by kernel_rfl) hrd) _ trivial) ?_)
          | (refine wpList_store_elem (w := w9) rfl 2 _ _ rfl w.heap.size rd rfl 75 .i64 _ z rfl qr9 (by rw [HL8.out]; exact hrd) size_i64 HZW.out ?_; intro w10 qz g10 z10))
        have c10 := (HBW.out _ b9).grown g10 (Nat.le_trans hbase (HBW.out _ b9).size) (fun r ee => by cases ee; exact hbase)
        have q10 := (HBQ.out _ b9).grown g10 (by intro ee; injection ee with ee; omega)
        have o10 := OwnL.kept (HOW.out _ b9) g10 (.inr HGO.out)
        go_roundw
        case rel => exact ⟨i + 1, by omega, by go_num, by rw [HNX.out, HST.out]; exact qz, q10, by rw [HNO.out]; exact o10, c10⟩
        case measure => simp [intOf]; omega
      · have HST := Lib.hid (HS.out 7 rfl (by decide))
        have HNO := Lib.hid (HNE.out (by decide))
        clear HS HS12 HNE HN12 he
        obtain ⟨z, hz⟩ : ∃ z, bits .xor .i64 a bv = z := ⟨_, rfl⟩
        have HZ := Lib.hid hz
        have HZW := Lib.hid (show (Lit.int .i64 z).wf = true from hz ▸ bits_wf' _ (.inr (.inr rfl)) _ _)
        have HST := Lib.hid (HST.out.trans (show zs.set rd (opV ⟨7, rd, ra, rb, rc, nn⟩ a bv cv) = zs.set rd z by rw [← hz]; rfl))
        clear hz
        go_wp2_with (first
          | (refine wpList_run (w := w9) rfl (v := .pointer (some ⟨wr.heap.size, 0, none⟩)) (Held.y_field (S := fun _ => True) (k := 0) (s := 0) rfl rfl Tryd.underlying58 rfl (by kernel_rfl) rfl _ trivial) ?_)
          | (refine wpList_run (w := w9) rfl (v := .pointer (some ⟨wr.heap.size, 1, none⟩)) (Held.y_field (S := fun _ => True) (k := 1) (s := 0) rfl rfl Tryd.underlying58 rfl (by kernel_rfl) rfl _ trivial) ?_)
          | (refine wpList_run (w := w9) rfl (v := .pointer (some ⟨wr.heap.size, 5, none⟩)) (Held.y_field (S := fun _ => True) (k := 5) (s := 0) rfl rfl Tryd.underlying58 rfl (by kernel_rfl) rfl _ trivial) ?_)
          | (refine wpList_run (w := w9) rfl (v := .int .i64 z) (Held.y_int (S := fun _ => True) rfl rfl rfl (Held.run_bitop (by simp) 2 .i64 HZ.out) _ trivial) ?_)
          | (refine wpList_run (w := w9) rfl (v := .pointer (some ⟨w.heap.size, rd, none⟩)) (Held.y_addr (S := fun _ => True) rfl rfl rfl (Held.run_addr_arr (P := Tryd.prog) 75 2 8 w.heap.size rd .i64 Tryd.underlying75 (by kernel_rfl) hrd) _ trivial) ?_)
          | (refine wpList_store_elem (w := w9) rfl 2 _ _ rfl w.heap.size rd rfl 75 .i64 _ z rfl qr9 (by rw [HL8.out]; exact hrd) size_i64 HZW.out ?_; intro w10 qz g10 z10))
        have c10 := (HBW.out _ b9).grown g10 (Nat.le_trans hbase (HBW.out _ b9).size) (fun r ee => by cases ee; exact hbase)
        have q10 := (HBQ.out _ b9).grown g10 (by intro ee; injection ee with ee; omega)
        have o10 := OwnL.kept (HOW.out _ b9) g10 (.inr HGO.out)
        go_roundw
        case rel => exact ⟨i + 1, by omega, by go_num, by rw [HNX.out, HST.out]; exact qz, q10, by rw [HNO.out]; exact o10, c10⟩
        case measure => simp [intOf]; omega
      · have HST := Lib.hid (HS.out 8 rfl (by decide))
        have HNO := Lib.hid (HNE.out (by decide))
        clear HS HS12 HNE HN12 he
        obtain ⟨q, hq⟩ : ∃ q, decide (a < bv) = q := ⟨_, rfl⟩
        have HQ := Lib.hid hq
        have HST := Lib.hid (HST.out.trans (show zs.set rd (opV ⟨8, rd, ra, rb, rc, nn⟩ a bv cv) = zs.set rd (oneI q) by rw [← hq]; simp [opV, oneI]))
        have HZW := Lib.hid (show (Lit.int .i64 (oneI q)).wf = true by cases q <;> rfl)
        clear hq
        go_wp2_with (first
          | (refine wpList_run (w := w9) rfl (v := .pointer (some ⟨wr.heap.size, 0, none⟩)) (Held.y_field (S := fun _ => True) (k := 0) (s := 0) rfl rfl Tryd.underlying58 rfl (by kernel_rfl) rfl _ trivial) ?_)
          | (refine wpList_run (w := w9) rfl (v := .pointer (some ⟨wr.heap.size, 1, none⟩)) (Held.y_field (S := fun _ => True) (k := 1) (s := 0) rfl rfl Tryd.underlying58 rfl (by kernel_rfl) rfl _ trivial) ?_)
          | (refine wpList_run (w := w9) rfl (v := .pointer (some ⟨wr.heap.size, 5, none⟩)) (Held.y_field (S := fun _ => True) (k := 5) (s := 0) rfl rfl Tryd.underlying58 rfl (by kernel_rfl) rfl _ trivial) ?_))
        refine wp_region_held (S := fun W => Only (fun g => g = w.heap.size) w9 W) (by kernel_rfl) ?_
        change wpAnyH _ _ _ _ _ _ _ _ w9.drew
        have D9 := (Below.refl w9.heap.size w9).drew
        have c0_0 : Only (fun g => g = w.heap.size) w9 w9.drew := Only.of_below D9
        have qr9 := qr9.below D9 qr9.lt
        have b9 := b9.trans (D9.mono b9.size)
        have hne : ¬ wr.heap.size = w.heap.size := by omega
        refine Held.tk (v := .pointer (some ⟨wr.heap.size, 1, none⟩)) 0 (some 96) rfl (Held.y_field (k := 1) (s := 0) rfl rfl Tryd.underlying58 rfl (by kernel_rfl) rfl) c0_0 ?_
        simp only [Act.put, Z1, Z2, Z3]
        refine Held.tk (v := .int .i64 (rd : Int)) 1 (some 97) rfl (Held.y_load rfl rfl (by kernel_rfl) (fun X hX => hX.cell hne d1)) c0_0 ?_
        simp only [Act.put, Z1, Z2, Z3]
        refine Held.tk (v := .int .i64 a) 2 (some 98) rfl (Held.y_move rfl rfl) c0_0 ?_
        simp only [Act.put, Z1, Z2, Z3]
        refine Held.tk (v := .int .i64 bv) 3 (some 99) rfl (Held.y_move rfl rfl) c0_0 ?_
        simp only [Act.put, Z1, Z2, Z3]
        refine Held.tk (v := .bool q) 4 (some 100) rfl (Held.y_lss rfl rfl rfl HQ.out) c0_0 ?_
        simp only [Act.put, Z1, Z2, Z3]
        refine Held.one 5 (by kernel_rfl) ?_
        refine Held.op_call 5 (some 101) 50 #[.bool q] rfl rfl rfl rfl (enters_of Tryd.func50 (by kernel_rfl) rfl) (by simp [Act.eval])
          (rone_i64 q _) ?_
        rintro e w1 ⟨rfl, b1⟩
        have c0_1 := c0_0.trans (Only.of_below b1)
        have qr9 := qr9.below b1 qr9.lt
        have b9 := b9.trans (b1.mono b9.size)
        refine ⟨_, rfl, c0_1, ?_⟩
        simp only [Act.put, Z1, Z2, Z3]
        refine Held.tk (v := .pointer (some ⟨w.heap.size, rd, none⟩)) 6 (some 102) rfl (Held.y_addr rfl rfl rfl (Held.run_addr_arr 75 2 8 w.heap.size rd .i64 Tryd.underlying75 (by kernel_rfl) hrd)) c0_1 ?_
        simp only [Act.put, Z1, Z2, Z3]
        refine Held.one 7 (by kernel_rfl) ?_
        refine Held.op_store_elem 7 none 2 w.heap.size rd 75 .i64 _ (oneI q) rfl rfl rfl rfl rfl rfl qr9 (by rw [HL8.out]; exact hrd) size_i64 HZW.out ?_
        intro w10 qz g10
        refine ⟨c0_1.trans (Only.of_grown g10 (fun r ee => by cases ee; rfl)), ?_⟩
        simp only [Act.put]
        refine wpAnyH_done (by kernel_rfl) ?_ _
        go_wp2_with fail
        have c10 := (HBW.out _ b9).grown g10 (Nat.le_trans hbase (HBW.out _ b9).size) (fun r ee => by cases ee; exact hbase)
        have q10 := (HBQ.out _ b9).grown g10 (by intro ee; injection ee with ee; omega)
        have o10 := OwnL.kept (HOW.out _ b9) g10 (.inr HGO.out)
        go_roundw
        case rel => exact ⟨i + 1, by omega, by go_num, by rw [HNX.out, HST.out]; exact qz, q10, by rw [HNO.out]; exact o10, c10⟩
        case measure => simp [intOf]; omega
      · have HST := Lib.hid (HS.out 9 rfl (by decide))
        have HNO := Lib.hid (HNE.out (by decide))
        clear HS HS12 HNE HN12 he
        obtain ⟨q, hq⟩ : ∃ q, decide (a = bv) = q := ⟨_, rfl⟩
        have HQ := Lib.hid hq
        have HST := Lib.hid (HST.out.trans (show zs.set rd (opV ⟨9, rd, ra, rb, rc, nn⟩ a bv cv) = zs.set rd (oneI q) by rw [← hq]; simp [opV, oneI]))
        have HZW := Lib.hid (show (Lit.int .i64 (oneI q)).wf = true by cases q <;> rfl)
        clear hq
        go_wp2_with (first
          | (refine wpList_run (w := w9) rfl (v := .pointer (some ⟨wr.heap.size, 0, none⟩)) (Held.y_field (S := fun _ => True) (k := 0) (s := 0) rfl rfl Tryd.underlying58 rfl (by kernel_rfl) rfl _ trivial) ?_)
          | (refine wpList_run (w := w9) rfl (v := .pointer (some ⟨wr.heap.size, 1, none⟩)) (Held.y_field (S := fun _ => True) (k := 1) (s := 0) rfl rfl Tryd.underlying58 rfl (by kernel_rfl) rfl _ trivial) ?_)
          | (refine wpList_run (w := w9) rfl (v := .pointer (some ⟨wr.heap.size, 5, none⟩)) (Held.y_field (S := fun _ => True) (k := 5) (s := 0) rfl rfl Tryd.underlying58 rfl (by kernel_rfl) rfl _ trivial) ?_))
        refine wp_region_held (S := fun W => Only (fun g => g = w.heap.size) w9 W) (by kernel_rfl) ?_
        change wpAnyH _ _ _ _ _ _ _ _ w9.drew
        have D9 := (Below.refl w9.heap.size w9).drew
        have c0_0 : Only (fun g => g = w.heap.size) w9 w9.drew := Only.of_below D9
        have qr9 := qr9.below D9 qr9.lt
        have b9 := b9.trans (D9.mono b9.size)
        have hne : ¬ wr.heap.size = w.heap.size := by omega
        refine Held.tk (v := .pointer (some ⟨wr.heap.size, 1, none⟩)) 0 (some 105) rfl (Held.y_field (k := 1) (s := 0) rfl rfl Tryd.underlying58 rfl (by kernel_rfl) rfl) c0_0 ?_
        simp only [Act.put, Z1, Z2, Z3]
        refine Held.tk (v := .int .i64 (rd : Int)) 1 (some 106) rfl (Held.y_load rfl rfl (by kernel_rfl) (fun X hX => hX.cell hne d1)) c0_0 ?_
        simp only [Act.put, Z1, Z2, Z3]
        refine Held.tk (v := .int .i64 a) 2 (some 107) rfl (Held.y_move rfl rfl) c0_0 ?_
        simp only [Act.put, Z1, Z2, Z3]
        refine Held.tk (v := .int .i64 bv) 3 (some 108) rfl (Held.y_move rfl rfl) c0_0 ?_
        simp only [Act.put, Z1, Z2, Z3]
        refine Held.tk (v := .bool q) 4 (some 109) rfl (Held.y_eqI rfl rfl rfl HQ.out) c0_0 ?_
        simp only [Act.put, Z1, Z2, Z3]
        refine Held.one 5 (by kernel_rfl) ?_
        refine Held.op_call 5 (some 110) 50 #[.bool q] rfl rfl rfl rfl (enters_of Tryd.func50 (by kernel_rfl) rfl) (by simp [Act.eval])
          (rone_i64 q _) ?_
        rintro e w1 ⟨rfl, b1⟩
        have c0_1 := c0_0.trans (Only.of_below b1)
        have qr9 := qr9.below b1 qr9.lt
        have b9 := b9.trans (b1.mono b9.size)
        refine ⟨_, rfl, c0_1, ?_⟩
        simp only [Act.put, Z1, Z2, Z3]
        refine Held.tk (v := .pointer (some ⟨w.heap.size, rd, none⟩)) 6 (some 111) rfl (Held.y_addr rfl rfl rfl (Held.run_addr_arr 75 2 8 w.heap.size rd .i64 Tryd.underlying75 (by kernel_rfl) hrd)) c0_1 ?_
        simp only [Act.put, Z1, Z2, Z3]
        refine Held.one 7 (by kernel_rfl) ?_
        refine Held.op_store_elem 7 none 2 w.heap.size rd 75 .i64 _ (oneI q) rfl rfl rfl rfl rfl rfl qr9 (by rw [HL8.out]; exact hrd) size_i64 HZW.out ?_
        intro w10 qz g10
        refine ⟨c0_1.trans (Only.of_grown g10 (fun r ee => by cases ee; rfl)), ?_⟩
        simp only [Act.put]
        refine wpAnyH_done (by kernel_rfl) ?_ _
        go_wp2_with fail
        have c10 := (HBW.out _ b9).grown g10 (Nat.le_trans hbase (HBW.out _ b9).size) (fun r ee => by cases ee; exact hbase)
        have q10 := (HBQ.out _ b9).grown g10 (by intro ee; injection ee with ee; omega)
        have o10 := OwnL.kept (HOW.out _ b9) g10 (.inr HGO.out)
        go_roundw
        case rel => exact ⟨i + 1, by omega, by go_num, by rw [HNX.out, HST.out]; exact qz, q10, by rw [HNO.out]; exact o10, c10⟩
        case measure => simp [intOf]; omega
      · have HST := Lib.hid (HS.out 10 rfl (by decide))
        have HNO := Lib.hid (HNE.out (by decide))
        clear HS HS12 HNE HN12 he
        by_cases h0 : a = 0
        · have HST := Lib.hid (HST.out.trans (show zs.set rd (opV ⟨10, rd, ra, rb, rc, nn⟩ a bv cv) = zs.set rd cv by simp [opV, h0]))
          have HZW := Lib.hid hcv
          go_wp2_with (first
            | (refine wpList_run (w := w9) rfl (v := .pointer (some ⟨wr.heap.size, 0, none⟩)) (Held.y_field (S := fun _ => True) (k := 0) (s := 0) rfl rfl Tryd.underlying58 rfl (by kernel_rfl) rfl _ trivial) ?_)
            | (refine wpList_run (w := w9) rfl (v := .pointer (some ⟨wr.heap.size, 1, none⟩)) (Held.y_field (S := fun _ => True) (k := 1) (s := 0) rfl rfl Tryd.underlying58 rfl (by kernel_rfl) rfl _ trivial) ?_)
            | (refine wpList_run (w := w9) rfl (v := .pointer (some ⟨wr.heap.size, 5, none⟩)) (Held.y_field (S := fun _ => True) (k := 5) (s := 0) rfl rfl Tryd.underlying58 rfl (by kernel_rfl) rfl _ trivial) ?_)
            | (refine wpList_run (w := w9) rfl (v := .pointer (some ⟨w.heap.size, rd, none⟩)) (Held.y_addr (S := fun _ => True) rfl rfl rfl (Held.run_addr_arr (P := Tryd.prog) 75 2 8 w.heap.size rd .i64 Tryd.underlying75 (by kernel_rfl) hrd) _ trivial) ?_)
            | (refine wpList_store_elem (w := w9) rfl 2 _ _ rfl w.heap.size rd rfl 75 .i64 _ cv rfl qr9 (by rw [HL8.out]; exact hrd) size_i64 HZW.out ?_; intro w10 qz g10 z10))
          have c10 := (HBW.out _ b9).grown g10 (Nat.le_trans hbase (HBW.out _ b9).size) (fun r ee => by cases ee; exact hbase)
          have q10 := (HBQ.out _ b9).grown g10 (by intro ee; injection ee with ee; omega)
          have o10 := OwnL.kept (HOW.out _ b9) g10 (.inr HGO.out)
          go_roundw
          case rel => exact ⟨i + 1, by omega, by go_num, by rw [HNX.out, HST.out]; exact qz, q10, by rw [HNO.out]; exact o10, c10⟩
          case measure => simp [intOf]; omega
        · have HST := Lib.hid (HST.out.trans (show zs.set rd (opV ⟨10, rd, ra, rb, rc, nn⟩ a bv cv) = zs.set rd bv by simp [opV, h0]))
          have HZW := Lib.hid hbv
          go_wp2_with (first
            | (refine wpList_run (w := w9) rfl (v := .pointer (some ⟨wr.heap.size, 0, none⟩)) (Held.y_field (S := fun _ => True) (k := 0) (s := 0) rfl rfl Tryd.underlying58 rfl (by kernel_rfl) rfl _ trivial) ?_)
            | (refine wpList_run (w := w9) rfl (v := .pointer (some ⟨wr.heap.size, 1, none⟩)) (Held.y_field (S := fun _ => True) (k := 1) (s := 0) rfl rfl Tryd.underlying58 rfl (by kernel_rfl) rfl _ trivial) ?_)
            | (refine wpList_run (w := w9) rfl (v := .pointer (some ⟨wr.heap.size, 5, none⟩)) (Held.y_field (S := fun _ => True) (k := 5) (s := 0) rfl rfl Tryd.underlying58 rfl (by kernel_rfl) rfl _ trivial) ?_)
            | (refine wpList_run (w := w9) rfl (v := .pointer (some ⟨w.heap.size, rd, none⟩)) (Held.y_addr (S := fun _ => True) rfl rfl rfl (Held.run_addr_arr (P := Tryd.prog) 75 2 8 w.heap.size rd .i64 Tryd.underlying75 (by kernel_rfl) hrd) _ trivial) ?_)
            | (refine wpList_store_elem (w := w9) rfl 2 _ _ rfl w.heap.size rd rfl 75 .i64 _ bv rfl qr9 (by rw [HL8.out]; exact hrd) size_i64 HZW.out ?_; intro w10 qz g10 z10))
          have c10 := (HBW.out _ b9).grown g10 (Nat.le_trans hbase (HBW.out _ b9).size) (fun r ee => by cases ee; exact hbase)
          have q10 := (HBQ.out _ b9).grown g10 (by intro ee; injection ee with ee; omega)
          have o10 := OwnL.kept (HOW.out _ b9) g10 (.inr HGO.out)
          go_roundw
          case rel => exact ⟨i + 1, by omega, by go_num, by rw [HNX.out, HST.out]; exact qz, q10, by rw [HNO.out]; exact o10, c10⟩
          case measure => simp [intOf]; omega
      · have HST := Lib.hid (HS.out 11 rfl (by decide))
        have HNO := Lib.hid (HNE.out (by decide))
        clear HS HS12 HNE HN12 he
        have HB6 := low6s bv hbv
        have hlt6 := (show (bv % 64).toNat ≤ 63 by omega)
        generalize hS : (bv % 64).toNat = sh at HB6 hlt6
        have HST := Lib.hid (HST.out.trans (show zs.set rd (opV ⟨11, rd, ra, rb, rc, nn⟩ a bv cv) = zs.set rd (a / 2 ^ sh) by rw [← hS]; rfl))
        have HZW := Lib.hid (show (Lit.int .i64 (a / 2 ^ sh)).wf = true by have := opV_wf ⟨11, rd, ra, rb, rc, nn⟩ (a := a) (b := bv) (c := cv) hnn hav hbv hcv; rw [← hS]; exact this)
        clear hS
        have hwu : IntKind.u64.wrap (sh : Int) = (sh : Int) := by rw [IntKind.wrap_u64]; omega
        go_wp2_with (first
          | (refine wpList_run (w := w9) rfl (v := .pointer (some ⟨wr.heap.size, 0, none⟩)) (Held.y_field (S := fun _ => True) (k := 0) (s := 0) rfl rfl Tryd.underlying58 rfl (by kernel_rfl) rfl _ trivial) ?_)
          | (refine wpList_run (w := w9) rfl (v := .pointer (some ⟨wr.heap.size, 1, none⟩)) (Held.y_field (S := fun _ => True) (k := 1) (s := 0) rfl rfl Tryd.underlying58 rfl (by kernel_rfl) rfl _ trivial) ?_)
          | (refine wpList_run (w := w9) rfl (v := .pointer (some ⟨wr.heap.size, 5, none⟩)) (Held.y_field (S := fun _ => True) (k := 5) (s := 0) rfl rfl Tryd.underlying58 rfl (by kernel_rfl) rfl _ trivial) ?_)
          | (refine wpList_shr (w := w9) rfl _ _ _ _ rfl .i64 .u64 a (a / 2 ^ sh) sh rfl rfl (by simp [IntKind.bits]; omega) rfl ?_)
          | (refine wpList_run (w := w9) rfl (v := .pointer (some ⟨w.heap.size, rd, none⟩)) (Held.y_addr (S := fun _ => True) rfl rfl rfl (Held.run_addr_arr (P := Tryd.prog) 75 2 8 w.heap.size rd .i64 Tryd.underlying75 (by kernel_rfl) hrd) _ trivial) ?_)
          | (refine wpList_store_elem (w := w9) rfl 2 _ _ rfl w.heap.size rd rfl 75 .i64 _ (a / 2 ^ sh) rfl qr9 (by rw [HL8.out]; exact hrd) size_i64 HZW.out ?_; intro w10 qz g10 z10))
        have c10 := (HBW.out _ b9).grown g10 (Nat.le_trans hbase (HBW.out _ b9).size) (fun r ee => by cases ee; exact hbase)
        have q10 := (HBQ.out _ b9).grown g10 (by intro ee; injection ee with ee; omega)
        have o10 := OwnL.kept (HOW.out _ b9) g10 (.inr HGO.out)
        go_roundw
        case rel => exact ⟨i + 1, by omega, by go_num, by rw [HNX.out, HST.out]; exact qz, q10, by rw [HNO.out]; exact o10, c10⟩
        case measure => simp [intOf]; omega
      · have HST := Lib.hid (HS12.out rfl)
        obtain ⟨hn0, hnK⟩ := he rfl
        obtain ⟨sn, rfl⟩ := Int.eq_ofNat_of_zero_le hn0
        have hnl : sn < outz.length := by rw [HOL.out]; omega
        have HNO := Lib.hid (HN12.out rfl)
        clear HS HS12 HNE HN12
        go_wp2_with (first
          | (refine wpList_run (w := w9) rfl (v := .pointer (some ⟨wr.heap.size, 0, none⟩)) (Held.y_field (S := fun _ => True) (k := 0) (s := 0) rfl rfl Tryd.underlying58 rfl (by kernel_rfl) rfl _ trivial) ?_)
          | (refine wpList_run (w := w9) rfl (v := .pointer (some ⟨wr.heap.size, 1, none⟩)) (Held.y_field (S := fun _ => True) (k := 1) (s := 0) rfl rfl Tryd.underlying58 rfl (by kernel_rfl) rfl _ trivial) ?_)
          | (refine wpList_run (w := w9) rfl (v := .pointer (some ⟨wr.heap.size, 5, none⟩)) (Held.y_field (S := fun _ => True) (k := 5) (s := 0) rfl rfl Tryd.underlying58 rfl (by kernel_rfl) rfl _ trivial) ?_))
        refine wp_region_held (S := fun W => Only (fun g => g = go) w9 W) (by kernel_rfl) ?_
        change wpAnyH _ _ _ _ _ _ _ _ w9.drew
        have D9 := (Below.refl w9.heap.size w9).drew
        have c0_0 : Only (fun g => g = go) w9 w9.drew := Only.of_below D9
        have b9 := b9.trans (D9.mono b9.size)
        have q9 := q9.after D9
        have qr9 := qr9.below D9 qr9.lt
        have hgw := HGO1.out
        have hne : ¬ wr.heap.size = go := by omega
        refine Held.tk (v := .slice (some ⟨go, 0, none⟩) K co) 0 (some 136) rfl (Held.y_move rfl rfl) c0_0 ?_
        simp only [Act.put, Z1, Z2, Z3]
        refine Held.tk (v := .pointer (some ⟨wr.heap.size, 5, none⟩)) 1 (some 137) rfl (Held.y_field (k := 5) (s := 0) rfl rfl Tryd.underlying58 rfl (by kernel_rfl) rfl) c0_0 ?_
        simp only [Act.put, Z1, Z2, Z3]
        refine Held.tk (v := .int .i64 (sn : Int)) 2 (some 138) rfl (Held.y_load rfl rfl (by kernel_rfl) (fun X hX => hX.cell hne d5)) c0_0 ?_
        simp only [Act.put, Z1, Z2, Z3]
        refine Held.one 3 (by kernel_rfl) ?_
        refine Held.op_call 3 (some 139) 37 #[] rfl rfl rfl rfl (enters_of Tryd.func37 (by kernel_rfl) rfl) (by simp)
          (rdead_ok _) ?_
        rintro e w1 ⟨rfl, b1⟩
        have c0_1 := c0_0.trans (Only.of_below b1)
        have qr9 := qr9.below b1 qr9.lt
        have q9 := q9.after b1
        have b9 := b9.trans (b1.mono b9.size)
        refine ⟨_, rfl, c0_1, ?_⟩
        simp only [Act.put, Z1, Z2, Z3]
        refine Held.tk (v := .pointer (some ⟨go, 0 + sn * 4, none⟩)) 4 (some 140) rfl (Held.y_addr rfl rfl rfl (Rs.run_addr_of 48 51 go 0 K co sn 4 .i64 Tryd.underlying48 (by kernel_rfl) (by omega))) c0_1 ?_
        simp only [Act.put, Z1, Z2, Z3]
        refine Held.one 5 (by kernel_rfl) ?_
        refine Sl.op_store_ownL (k := kRec) 5 none 51 base go K co _ sn outz RD rfl rfl rfl rfl (by show 0 + sn * 4 = sn * 4; omega) rfl rfl (HOW.out _ b9) hnl (by kernel_rfl) ?_
        intro w10 o10 g10
        refine ⟨c0_1.trans (Only.of_grown g10 (fun r ee => by cases ee; rfl)), ?_⟩
        simp only [Act.put]
        refine wpAnyH_done (by kernel_rfl) ?_ _
        have hbw := b9.size
        have c10 := (HBW.out _ b9).grown g10 (Nat.le_trans hbase (HBW.out _ b9).size) (fun r ee => by cases ee; exact HGB.out)
        have q10 := (HBQ.out _ b9).grown g10 (by intro ee; injection ee with ee; omega)
        have qr10 := qr9.grown g10 (by intro ee; injection ee with ee; omega)
        have q11 := q9.grown g10 (by intro ee; injection ee with ee; omega)
        have d5 := q11.cell (i := 5) rfl
        clear c0_1 c0_0 b1 D9 q9 qr9 d0 d1
        by_cases h0 : cv = 0
        · have HNO := Lib.hid (HNO.out.trans (by rw [if_pos h0, Int.toNat_natCast]))
          go_wp2_with fail
          go_roundw
          case rel => exact ⟨i + 1, by omega, by go_num, by rw [HNX.out, HST.out]; exact qr10, q10, by rw [HNO.out]; exact o10, c10⟩
          case measure => simp [intOf]; omega
        · obtain ⟨z, hz⟩ : ∃ z, IntKind.i64.wrap (first + (sn : Int)) = z := ⟨_, rfl⟩
          have HZ := Lib.hid hz
          have HNO := Lib.hid (HNO.out.trans (show outz.set (sn : Int).toNat (if cv = 0 then RD else ⟨false, a, bv, wrap64 (first + (sn : Int))⟩) = (outz.set sn RD).set sn ⟨false, a, bv, z⟩ by rw [if_neg h0, Int.toNat_natCast, List.set_set, ← w64, hz]))
          have hnl2 : sn < (outz.set sn RD).length := by rw [List.length_set]; exact hnl
          clear hz
          go_wp2_with (first
            | (refine on 142 ?_; refine wpList_run (w := w10) rfl (v := .bool true) (Held.y_neI (S := fun _ => True) rfl rfl rfl (by simp; exact h0) _ trivial) ?_)
            | (refine on 144 ?_; refine wpList_run (w := w10) rfl (v := .pointer (some ⟨wr.heap.size, 5, none⟩)) (Held.y_field (S := fun _ => True) (k := 5) (s := 0) rfl rfl Tryd.underlying58 rfl (by kernel_rfl) rfl _ trivial) ?_)
            | (refine on 149 ?_; refine wpList_run (w := w10) rfl (v := .pointer (some ⟨wr.heap.size, 5, none⟩)) (Held.y_field (S := fun _ => True) (k := 5) (s := 0) rfl rfl Tryd.underlying58 rfl (by kernel_rfl) rfl _ trivial) ?_)
            | (refine on 151 ?_; refine wpList_run (w := w10) rfl (v := .int .i64 z) (Held.y_int (S := fun _ => True) rfl rfl rfl (Held.run_add 2 .i64 HZ.out) _ trivial) ?_)
            | (refine on 152 ?_; refine wpList_build_blk rfl 51 _ rfl #[.bool false, .int .i64 a, .int .i64 bv, .int .i64 z] (by kernel_rfl) ?_)
            | (refine on 153 ?_; refine wpList_run (w := w10) rfl (v := .pointer (some ⟨go, 0 + sn * 4, none⟩)) (Held.y_addr (S := fun _ => True) rfl rfl rfl (Rs.run_addr_of (P := Tryd.prog) 48 51 go 0 K co sn 4 .i64 Tryd.underlying48 (by kernel_rfl) (by omega)) _ trivial) ?_)
            | (refine onS 153 ?_; refine wpList_store_ownL (k := kRec) (w := w10) rfl 51 _ _ rfl base go K co _ sn (outz.set sn RD) ⟨false, a, bv, z⟩ (by show 0 + sn * 4 = sn * 4; omega) rfl rfl o10 hnl2 (by kernel_rfl) ?_; intro w11 o11 g11))
          have c11 := c10.grown g11 (Nat.le_trans hbase c10.size) (fun r ee => by cases ee; exact HGB.out)
          have q12 := q10.grown g11 (by intro ee; injection ee with ee; omega)
          have qr11 := qr10.grown g11 (by intro ee; injection ee with ee; omega)
          go_roundw
          case rel => exact ⟨i + 1, by omega, by go_num, by rw [HNX.out, HST.out]; exact qr11, q12, by rw [HNO.out]; exact o11, c11⟩
          case measure => simp [intOf]; omega
    · have hin : i = n := by omega
      subst hin
      rw [List.take_of_length_le (by rw [HL.out]; exact Nat.le_refl _)] at qr qo
      have H8 := Lib.hid (HRL.out xs)
      obtain ⟨zs, hzs⟩ : ∃ zs, runR xs rs0 = zs := ⟨_, rfl⟩
      rw [hzs] at qr H8
      have HZS := Lib.hid hzs
      clear hzs
      go_wp2_with (first
        | (refine wpList_load_Row (w := wr) rfl 75 _ rfl w.heap.size rfl 75 .i64 _ qr 8 2 Tryd.underlying75 info_regs H8.out ?_)
        | (refine wpList_store_RowTo (w := wr) rfl 75 _ _ rfl u1.heap.size rfl 75 .i64 _ zs rfl q2 8 info_regs H8.out (by simp) qr.1 ?_; intro w8 q8 g8 z8))
      have q8' : Blk w8 u1.heap.size 75 (arr .i64 zs) := q8.2
      exact bodyPost_ret (results_blk_tmp rfl _ _ u1.heap.size 8 _ _ (.slice (some ⟨go, 0, none⟩) K co) rfl rfl q8' _ Tryd.underlying75 rfl info_regs (by rw [arr_size]; exact H8.out)) rfl ⟨by rw [HZS.out], OwnL.kept qo g8 (.inr (fun ee => by have := (OwnL.lt ho _ ee).2; omega)), bw.grown g8 (Nat.le_trans hbase bw.size) (fun r ee => by cases ee; omega)⟩
end Go.Proofs.YtlinmcgmkpkpaaaDoor.Pi
