/-
  The document's own keys of a job, a place, a sender and a journal, by their contracts.
  The document's own Seal and Open of blocks (package dominoref10), by their contracts.
  The document's own Size of blocks (package dominoref10) by its contract.
  Where every activation may run, what is shown of one operation without a fence holds within a round, and within an iterator, too: no program here.
  Package block: which sizes may be, how long blocks are, and the iterator over records with dead ones behind them, by their contracts.
-/
import Derived.Test.YtjelacblnjbfgaaGreatDoorB20
import Derived.Test.YtjelacblnjbfgaaGreatDoorB14
import Derived.Test.YtjelacblnjbfgaaGreatDoorB19
import Derived.Test.YtjelacblnjbfgaaGreatDoorB5
import Derived.Test.YtjelacblnjbfgaaGreatDoorB9
import Derived.Test.YtjelacblnjbfgaaGreatDoorB13
import Derived.Test.YtjelacblnjbfgaaGreatDoorB11
set_option linter.unusedVariables false
namespace Go.Proofs.YtjelacblnjbfgaaGreatDoor.Ky
open Go.RowKit Go.Shelf Go.Proofs.YtjelacblnjbfgaaGreatDoor Mem Help Go.Proofs.YtjelacblnjbfgaaGreatDoor.Sum Sha Mac Po Hkdf
attribute [local irreducible] wpList wpListIn Calls
def TextRow (w : World) (p : Nat) (zs : List Int) : Prop := (∀ z ∈ zs, (Lit.int .u8 z).wf = true) ∧ w.heap[p]? = some (.cells (zs.map (Value.int .u8)).toArray 5 (zs.length, zs.length + 1))
theorem TextRow.lt {w : World} {p : Nat} {zs : List Int} (h : TextRow w p zs) : p < w.heap.size := (Array.getElem?_eq_some_iff.1 h.2).1
theorem TextRow.below {w w' : World} {p : Nat} {zs : List Int} (h : TextRow w p zs) (hb : Below w.heap.size w w') : TextRow w' p zs := ⟨h.1, (hb.block p h.lt).trans h.2⟩
section
variable {P : Program} {ops : Array Oper} {Q : Exit → Act → World → Prop}
theorem op_mark (i : Nat) (d : Option Tmp) {o : Oper} {a : Act} {w : World} {K : Act → World → Prop} (t : TypeId) {x : Operand} (p n : Nat) (zs : List Int) (hi : ops[i]? = some o) (hd : o.dst = d) (hw : Region.wanted o (yielded ops a.tmps) = true)
    (ho : o.op = .convert t t x) (hx : a.eval x = .slice (some ⟨p, 0, none⟩) n n) (ht : P.underlying t = some (.slice 5)) (he : P.underlying 5 = some (.int .u8)) (hr : Row w p 5 .u8 zs)
    (h : ∀ w', TextRow w' p zs → w.grownBy w' (some p) → K (a.put d (.slice (some ⟨p, 0, none⟩) n n)) w') : wpOp P ops Q i K a w := by
  subst hd
  refine Held.op_wp i hi hw ?_
  have hsh : w.shape? p = some (5, zs.length) := by simp [World.shape?, hr.2]
  have hrun : (convert t t (.slice (some ⟨p, 0, none⟩) n n)).run P w = .ok (.slice (some ⟨p, 0, none⟩) n n) (w.freeze ⟨p, zs.length, none⟩ 1) := by
    simp [convert, run_underlying ht, run_underlying he, markStringish, hsh]
  unfold Oper.wp execOp
  simp only [ho, hx, hrun, Sem.run_bind, Sem.run_pure, Result.andThen_ok]
  refine h _ ⟨hr.1, ?_⟩ ⟨rfl, rfl, rfl, ?_, fun k hk hne => ?_⟩
  · simp [World.freeze, Array.getElem?_modify, hr.2]
  · simp [World.freeze]
  · have : ¬ p = k := fun e => hne (by rw [e])
    simp [World.freeze, Array.getElem?_modify, this]
theorem op_append_text (i : Nat) (d : Option Tmp) {o : Oper} {a : Act} {w : World} {K : Act → World → Prop} {s x : Operand} (ts : TypeId) (hi : ops[i]? = some o) (hd : o.dst = d) (hw : Region.wanted o (yielded ops a.tmps) = true)
    (ho : o.op = .call { callee := .builtin .append, args := #[s, x], argTypes := #[ts, ts] }) (ht : P.underlying ts = some (.slice 5))
    (hinfo : (P.info? 5).map (fun i => (i.zero, i.size, i.bytes)) = some (some (.int .u8 0), 1, 1)) (p n : Nat) (zs : List Int) (hs : a.eval s = .slice (some ⟨p, 0, none⟩) n n) (hr : TextRow w p zs) (hn : zs.length = n)
    (B : Nat) (A : Option Addr) (m c : Nat) (xs : List Int) (hx : a.eval x = .slice A m c) (hxs : Ints w .u8 B A m xs) (hm : 0 < m) (hlen : n + m ≤ 17592186044416)
    (h : ∀ A' n' c' w', Mem.Own w' w.heap.size 5 .u8 (.slice A' n' c') (zs ++ xs) → Below w.heap.size w w' → n' ≤ c' → c' ≤ maxLen → Hid (n' = n + m) → K (a.put d (.slice A' n' c')) w') : wpOp P ops Q i K a w := by
  subst hd
  subst hn
  refine Held.op_wp i hi hw ?_
  obtain ⟨ie, hie, hz, hsz, hbb⟩ := info_parts hinfo
  obtain ⟨b, off, rfl, _, hc⟩ := hxs.2.2 hm
  have hl := hxs.1
  have holds : ∀ j u, (zs.map (Value.int .u8))[j]? = some u → w.cell? ((⟨p, 0, none⟩ : Addr).add j) = some u := fun j u hu => by
    rw [addr_add, Nat.zero_add, cell_of_row w p j _ _ _ hr.2, ← hu]
    simp
  have hnews : ∀ j u, (xs.map (Value.int .u8))[j]? = some u → w.cell? ((⟨b, off, none⟩ : Addr).add j) = some u := fun j u hu => by
    have hj : j < m := by have := (List.getElem?_eq_some_iff.1 hu).1; simp at this; omega
    rw [addr_add, hc j hj, ← hu]
    simp [List.getD_eq_getElem?_getD, show j < xs.length by omega]
  have hr2 := run_append_grow (P := P) w ts o.type 5 ie (.int .u8 0) ht hie hz ⟨p, 0, none⟩ zs.length zs.length (zs.map (Value.int .u8)) (by simp [hsz]) holds ⟨b, off, none⟩ m c (xs.map (Value.int .u8)) (by simp [hsz, hl]) hnews (by omega) (by omega) (growslice_fits (by omega) (by rw [hbb]; omega))
  have hge := grownCap_ge w (zs.length + m) zs.length 5
  have hcm : grownCap w (zs.length + m) zs.length 5 ≤ maxLen := grownCap_le_maxLen w (zs.length + m) zs.length 5 (by simp only [maxLen]; omega)
  refine Lib.wp_append_run w s x ts ts ho _ _ hs hx _ _ hr2 (h _ _ _ _ ⟨fun z hz => ?_, by simp [hl], .inr ⟨w.heap.size, _, _, by simp [hl], Nat.le_refl _, heap_alloc_new w.drew _, by simpa [hl] using hge, hcm, ?_, ?_⟩⟩ ⟨rfl, rfl, rfl, by simp, fun k hk => Below.heap_alloc w.drew _ k hk⟩ hge hcm (Lib.hid rfl))
  · rcases List.mem_append.1 hz with q | q
    · exact hr.1 z q
    · exact hxs.2.1 z q
  · simp only [Array.size_append, List.size_toArray, size_zeroCells, List.length_map, Value.cells, hl]
    simp
    omega
  · simp only [Array.toList_append, List.append_assoc]
    rw [← List.append_assoc, List.take_left' (by simp [hl])]
    simp
end
set_option maxRecDepth 100000 in
set_option maxHeartbeats 8000000 in
theorem rplace_any (key0 : List Int) (hk : key0.length = 32) (hkb : ∀ z ∈ key0, (Lit.int .u8 z).wf = true) (ph r a t i : Int) (w : World) :
    Calls Tryz.prog 21 #[.agg (arr .u8 key0), .agg #[.int .i64 ph, .int .i64 r, .int .i64 a, .int .u64 t, .int .i64 i]] w fun e w' => e = .returned (.agg (arr .u8 (kPlace key0 ph r a))) ∧ Below w.heap.size w w' := by
  have HK := Lib.hid hk
  have HKB := Lib.hid hkb
  clear hk hkb
  have hwid : ∀ z ∈ [u64 ph, u64 r, u64 a], (Lit.int .u64 z).wf = true := fun z hz => by
    rcases List.mem_cons.1 hz with rfl | hz
    · exact u64_wf _
    rcases List.mem_cons.1 hz with rfl | hz
    · exact u64_wf _
    · rw [List.mem_singleton.1 hz]; exact u64_wf _
  go_enter Tryz.func21, Tryz.ntmps21
  go_wp2_with (first
    | (refine wpList_box_Row (w := w) rfl 22 _ rfl .u8 key0 rfl HKB.out ?_; intro w1 r1 g1 z1)
    | (refine wpList_box_place (w := w1) rfl _ rfl #[.int .i64 ph, .int .i64 r, .int .i64 a, .int .u64 t, .int .i64 i] rfl rfl ?_; intro wq rq gq)
    | (refine wpList_alloc_Row (w := wq) rfl 22 rfl .u8 32 zero_32 ?_; intro w2 r2 g2 z2))
  obtain ⟨ga, hga⟩ : ∃ g, w.heap.size = g := ⟨_, rfl⟩
  obtain ⟨gp, hgp⟩ : ∃ g, w1.heap.size = g := ⟨_, rfl⟩
  obtain ⟨gr, hgr⟩ : ∃ g, wq.heap.size = g := ⟨_, rfl⟩
  have k1 := (r1.grown gq (by simp)).grown g2 (by simp)
  have bw : Below w.heap.size w w2 := (((Below.refl _ w).grown g1 (Nat.le_refl _) (by simp)).grown gq g1.size (by simp)).grown g2 (Nat.le_trans g1.size gq.size) (by simp)
  have hgrw : w.heap.size ≤ gr := by rw [← hgr]; exact Nat.le_trans g1.size gq.size
  have hgpr : gp < gr := by rw [← hgr]; rw [hgp] at rq; exact (Array.getElem?_eq_some_iff.1 rq).1
  have q2 := Held.keep_cells rq g2 (by simp)
  rw [hgr] at r2 ⊢
  rw [hgp] at q2 ⊢
  have hgar : ga < gr := by rw [← hga]; exact Nat.lt_of_lt_of_le r1.lt (by rw [← hgr]; exact gq.size)
  rw [hga] at k1 ⊢
  have HGA := Lib.hid hga
  have f0 : w2.cell? ⟨gp, 0, none⟩ = some (.int .i64 ph) := by rw [cell_of_row w2 gp 0 _ _ _ q2]; rfl
  have f1 : w2.cell? ⟨gp, 1, none⟩ = some (.int .i64 r) := by rw [cell_of_row w2 gp 1 _ _ _ q2]; rfl
  have f2 : w2.cell? ⟨gp, 2, none⟩ = some (.int .i64 a) := by rw [cell_of_row w2 gp 2 _ _ _ q2]; rfl
  clear hga hgr hgp r1 g1 gq g2 z1 z2 rq
  refine wp_region_held (S := fun W => Below gr w2 W) (by kernel_rfl) ?_
  change wpAnyH _ _ _ _ _ _ _ _ w2.drew
  have e0 := (Below.refl w2.heap.size w2).drew
  have hg2 : gr ≤ w2.heap.size := Nat.le_of_lt r2.lt
  have c0_0 := e0.mono hg2
  refine Held.tk (v := .slice (some ⟨ga, 0, none⟩) 32 32) 0 (some 5) rfl (Held.y_slice rfl (fun X => run_slice_arr_all (P := Tryz.prog) 22 5 32 ga X Tryz.underlying22 (by kernel_rfl) (by omega))) c0_0 ?_
  simp only [Act.put, Z1, Z2, Z3]
  refine Held.tk (v := .pointer (some ⟨gp, 0, none⟩)) 3 (some 8) rfl (y_place (by omega) rfl rfl) c0_0 ?_
  simp only [Act.put, Z1, Z2, Z3]
  refine Held.tk (v := .int .i64 ph) 4 (some 9) rfl (Held.y_load rfl rfl (by kernel_rfl) (fun W hW => (hW.cell (p := ⟨gp, 0, none⟩) hgpr).trans f0)) c0_0 ?_
  simp only [Act.put, Z1, Z2, Z3]
  refine Held.tk (v := .int .u64 (u64 ph)) 5 (some 10) rfl (Held.y_convert rfl rfl (by kernel_rfl) Tryz.underlying23 (u64_eq _)) c0_0 ?_
  simp only [Act.put, Z1, Z2, Z3]
  refine Held.tk (v := .pointer (some ⟨gp, 1, none⟩)) 6 (some 11) rfl (y_place (by omega) rfl rfl) c0_0 ?_
  simp only [Act.put, Z1, Z2, Z3]
  refine Held.tk (v := .int .i64 r) 7 (some 12) rfl (Held.y_load rfl rfl (by kernel_rfl) (fun W hW => (hW.cell (p := ⟨gp, 1, none⟩) hgpr).trans f1)) c0_0 ?_
  simp only [Act.put, Z1, Z2, Z3]
  refine Held.tk (v := .int .u64 (u64 r)) 8 (some 13) rfl (Held.y_convert rfl rfl (by kernel_rfl) Tryz.underlying23 (u64_eq _)) c0_0 ?_
  simp only [Act.put, Z1, Z2, Z3]
  refine Held.tk (v := .pointer (some ⟨gp, 2, none⟩)) 9 (some 14) rfl (y_place (by omega) rfl rfl) c0_0 ?_
  simp only [Act.put, Z1, Z2, Z3]
  refine Held.tk (v := .int .i64 a) 10 (some 15) rfl (Held.y_load rfl rfl (by kernel_rfl) (fun W hW => (hW.cell (p := ⟨gp, 2, none⟩) hgpr).trans f2)) c0_0 ?_
  simp only [Act.put, Z1, Z2, Z3]
  refine Held.tk (v := .int .u64 (u64 a)) 11 (some 16) rfl (Held.y_convert rfl rfl (by kernel_rfl) Tryz.underlying23 (u64_eq _)) c0_0 ?_
  simp only [Act.put, Z1, Z2, Z3]
  refine Held.two 1 12 (by kernel_rfl) ?_ ?_
  · refine Held.op_build_Row 1 (some 6) 27 5 5 .u8 1 [112, 108, 97, 99, 101] rfl rfl rfl rfl Tryz.underlying27 info_u8 (by simp [Act.eval]) rfl (by omega) (by omega) (by decide) ?_
    intro p x1 rT bb hp
    have b1 : Below w2.drew.heap.size w2.drew x1 := ⟨bb.os, bb.tape, bb.output, bb.size, bb.block⟩
    have hpl : w2.heap.size ≤ p := Nat.le_trans e0.size hp.out
    have e1 := e0.trans (b1.mono e0.size)
    have c0_1 := e1.mono hg2
    clear bb hp
    refine ⟨c0_1, ?_⟩
    simp only [Act.put, Z1, Z2, Z3]
    refine Held.two 2 12 (by kernel_rfl) ?_ ?_
    · refine op_mark 2 (some 7) 27 p 5 [112, 108, 97, 99, 101] rfl rfl rfl rfl rfl Tryz.underlying27 Tryz.underlying5 rT ?_
      intro x2 rM gM
      have e2 := e1.grown gM e1.size (fun r e => by cases e; exact hpl)
      have c0_2 := e2.mono hg2
      clear rT gM
      refine ⟨c0_2, ?_⟩
      simp only [Act.put, Z1, Z2, Z3]
      refine Held.one 12 (by kernel_rfl) ?_
      refine Held.op_build_Row 12 (some 17) 96 23 3 .u64 8 [u64 ph, u64 r, u64 a] rfl rfl rfl rfl Tryz.underlying96 info_w64 (by simp [Act.eval]) rfl (by omega) (by omega) hwid ?_
      intro q x3 rN bb hq
      have b3 : Below x2.heap.size x2 x3 := ⟨bb.os, bb.tape, bb.output, bb.size, bb.block⟩
      have e3 := e2.trans (b3.mono e2.size)
      have rM := rM.below b3
      have c0_3 := e3.mono hg2
      clear bb hq
      refine ⟨c0_3, ?_⟩
      simp only [Act.put, Z1, Z2, Z3]
      refine Held.one 13 (by kernel_rfl) ?_
      refine Held.op_call 13 (some 18) 45 #[.slice (some ⟨q, 0, none⟩) 3 3] rfl rfl rfl rfl (enters_of Tryz.func45 (by kernel_rfl) rfl) (by simp [Act.eval]) (eights_any x3.heap.size _ 3 3 [u64 ph, u64 r, u64 a] x3 (rN.ints (n := 3) (by simp)) (Nat.le_refl _) (by omega)) ?_
      rintro e x4 ⟨AE, nE, cE, rfl, oE, b4⟩
      have HNE := Lib.hid (show nE = 24 from (OwnM.of oE).caps.1.symm.trans (eights_length _))
      have iE := oE.ints (show (eights [u64 ph, u64 r, u64 a]).length = nE by rw [eights_length, HNE.out]; rfl)
      have e4 := e3.trans (b4.mono e3.size)
      have rM := rM.below b4
      have c0_4 := e4.mono hg2
      clear oE
      refine ⟨_, rfl, c0_4, ?_⟩
      simp only [Act.put, Z1, Z2, Z3]
      refine Held.one 14 (by kernel_rfl) ?_
      refine op_append_text 14 (some 19) 27 rfl rfl rfl rfl Tryz.underlying27 info_u8 p 5 [112, 108, 97, 99, 101] rfl rM rfl x4.heap.size AE nE cE (eights [u64 ph, u64 r, u64 a]) rfl iE (by first | omega | (have := HNE.out; omega)) (by first | omega | (have := HNE.out; omega)) ?_
      intro AI nI cI x5 oI bb hI1 hI2 hI3
      have iI := oI.ints (show ([112, 108, 97, 99, 101] ++ (eights [u64 ph, u64 r, u64 a])).length = nI by rw [List.length_append, hI3.out, eights_length, HNE.out]; rfl)
      have hnI : nI ≤ 100 := by have := hI3.out; first | omega | (have := HNE.out; omega)
      have e5 := e4.trans (bb.mono e4.size)
      have c0_5 := e5.mono hg2
      clear oI bb rM iE
      refine ⟨c0_5, ?_⟩
      simp only [Act.put, Z1, Z2, Z3]
      refine Held.one 15 (by kernel_rfl) ?_
      have hk4 := (k1.below e5 k1.lt).ints (n := 32) (by rw [HK.out]; omega)
      rw [List.take_of_length_le (by rw [HK.out]; omega)] at hk4
      refine Held.op_call 15 (some 20) 44 #[.slice none 0 0, .slice (some ⟨ga, 0, none⟩) 32 32, .slice AI nI cI] rfl rfl rfl rfl (enters_of Tryz.func44 (by kernel_rfl) rfl) (by simp [Act.eval]) (rkey_any x5.heap.size x5.heap.size x5.heap.size none (some ⟨ga, 0, none⟩) AI 0 0 32 32 nI cI [] key0 ([112, 108, 97, 99, 101] ++ (eights [u64 ph, u64 r, u64 a])) x5 (Ints.nil _ _ _ _) (Nat.le_refl _) (by omega) hk4 (Nat.le_refl _) (by omega) iI (Nat.le_refl _) (by omega)) ?_
      rintro e x6 ⟨rfl, b6⟩
      have e6 := e5.trans (b6.mono e5.size)
      have c0_6 := e6.mono hg2
      have n5 := r2.below e6 r2.lt
      have HO := Lib.hid (hkey_length [] key0 ([112, 108, 97, 99, 101] ++ (eights [u64 ph, u64 r, u64 a])))
      have HW := Lib.hid (hkey_wf [] key0 ([112, 108, 97, 99, 101] ++ (eights [u64 ph, u64 r, u64 a])))
      obtain ⟨key, hkk⟩ : ∃ key, hkey [] key0 ([112, 108, 97, 99, 101] ++ (eights [u64 ph, u64 r, u64 a])) = key := ⟨_, rfl⟩
      rw [hkk] at HO HW ⊢
      have HKK := Lib.hid hkk
      clear hkk b6 hk4 iI
      refine ⟨_, rfl, c0_6, ?_⟩
      simp only [Act.put, Z1, Z2, Z3]
      refine Held.one 16 (by kernel_rfl) ?_
      refine Held.op_store_RowL 16 none 22 gr 22 .u8 _ key rfl rfl rfl rfl rfl rfl n5 32 info_32 HO.out (by simp) HW.out ?_
      intro wz rz gz
      have c0_7 : Below gr w2 wz := (e6.mono hg2).grown gz (Nat.le_trans hg2 e6.size) (fun r e => by cases e; exact Nat.le_refl _)
      have d5 := bw.trans (e6.mono bw.size)
      have dz := d5.grown gz d5.size (fun r e => by cases e; exact hgrw)
      refine ⟨c0_7, ?_⟩
      simp only [Act.put]
      refine wpAnyH_done (by kernel_rfl) ?_ _
      go_wp2_with fail
      exact bodyPost_ret (results_Row rfl _ _ gr _ _ _ rfl rz 32 5 Tryz.underlying22 info_32 HO.out) rfl ⟨by rw [← HKK.out]; exact rfl, dz⟩
    · refine Held.op_build_Row 12 (some 17) 96 23 3 .u64 8 [u64 ph, u64 r, u64 a] rfl rfl rfl rfl Tryz.underlying96 info_w64 (by simp [Act.eval]) rfl (by omega) (by omega) hwid ?_
      intro q x2 rN bb hq
      have b2 : Below x1.heap.size x1 x2 := ⟨bb.os, bb.tape, bb.output, bb.size, bb.block⟩
      have hqp : q ≠ p := fun e => by have := rT.lt; have := hq.out; subst e; exact absurd (Nat.lt_of_lt_of_le rT.lt hq.out) (Nat.lt_irrefl _)
      have e2 := e1.trans (b2.mono e1.size)
      have rT := rT.below b2 rT.lt
      have c0_2 := e2.mono hg2
      clear bb hq
      refine ⟨c0_2, ?_⟩
      simp only [Act.put, Z1, Z2, Z3]
      refine Held.two 2 13 (by kernel_rfl) ?_ ?_
      · refine op_mark 2 (some 7) 27 p 5 [112, 108, 97, 99, 101] rfl rfl rfl rfl rfl Tryz.underlying27 Tryz.underlying5 rT ?_
        intro x3 rM gM
        have e3 := e2.grown gM e2.size (fun r e => by cases e; exact hpl)
        have rN := rN.grown gM (by intro e; injection e with e; exact hqp e)
        have c0_3 := e3.mono hg2
        clear rT gM
        refine ⟨c0_3, ?_⟩
        simp only [Act.put, Z1, Z2, Z3]
        refine Held.one 13 (by kernel_rfl) ?_
        refine Held.op_call 13 (some 18) 45 #[.slice (some ⟨q, 0, none⟩) 3 3] rfl rfl rfl rfl (enters_of Tryz.func45 (by kernel_rfl) rfl) (by simp [Act.eval]) (eights_any x3.heap.size _ 3 3 [u64 ph, u64 r, u64 a] x3 (rN.ints (n := 3) (by simp)) (Nat.le_refl _) (by omega)) ?_
        rintro e x4 ⟨AE, nE, cE, rfl, oE, b4⟩
        have HNE := Lib.hid (show nE = 24 from (OwnM.of oE).caps.1.symm.trans (eights_length _))
        have iE := oE.ints (show (eights [u64 ph, u64 r, u64 a]).length = nE by rw [eights_length, HNE.out]; rfl)
        have e4 := e3.trans (b4.mono e3.size)
        have rM := rM.below b4
        have c0_4 := e4.mono hg2
        clear oE
        refine ⟨_, rfl, c0_4, ?_⟩
        simp only [Act.put, Z1, Z2, Z3]
        refine Held.one 14 (by kernel_rfl) ?_
        refine op_append_text 14 (some 19) 27 rfl rfl rfl rfl Tryz.underlying27 info_u8 p 5 [112, 108, 97, 99, 101] rfl rM rfl x4.heap.size AE nE cE (eights [u64 ph, u64 r, u64 a]) rfl iE (by first | omega | (have := HNE.out; omega)) (by first | omega | (have := HNE.out; omega)) ?_
        intro AI nI cI x5 oI bb hI1 hI2 hI3
        have iI := oI.ints (show ([112, 108, 97, 99, 101] ++ (eights [u64 ph, u64 r, u64 a])).length = nI by rw [List.length_append, hI3.out, eights_length, HNE.out]; rfl)
        have hnI : nI ≤ 100 := by have := hI3.out; first | omega | (have := HNE.out; omega)
        have e5 := e4.trans (bb.mono e4.size)
        have c0_5 := e5.mono hg2
        clear oI bb rM iE
        refine ⟨c0_5, ?_⟩
        simp only [Act.put, Z1, Z2, Z3]
        refine Held.one 15 (by kernel_rfl) ?_
        have hk4 := (k1.below e5 k1.lt).ints (n := 32) (by rw [HK.out]; omega)
        rw [List.take_of_length_le (by rw [HK.out]; omega)] at hk4
        refine Held.op_call 15 (some 20) 44 #[.slice none 0 0, .slice (some ⟨ga, 0, none⟩) 32 32, .slice AI nI cI] rfl rfl rfl rfl (enters_of Tryz.func44 (by kernel_rfl) rfl) (by simp [Act.eval]) (rkey_any x5.heap.size x5.heap.size x5.heap.size none (some ⟨ga, 0, none⟩) AI 0 0 32 32 nI cI [] key0 ([112, 108, 97, 99, 101] ++ (eights [u64 ph, u64 r, u64 a])) x5 (Ints.nil _ _ _ _) (Nat.le_refl _) (by omega) hk4 (Nat.le_refl _) (by omega) iI (Nat.le_refl _) (by omega)) ?_
        rintro e x6 ⟨rfl, b6⟩
        have e6 := e5.trans (b6.mono e5.size)
        have c0_6 := e6.mono hg2
        have n5 := r2.below e6 r2.lt
        have HO := Lib.hid (hkey_length [] key0 ([112, 108, 97, 99, 101] ++ (eights [u64 ph, u64 r, u64 a])))
        have HW := Lib.hid (hkey_wf [] key0 ([112, 108, 97, 99, 101] ++ (eights [u64 ph, u64 r, u64 a])))
        obtain ⟨key, hkk⟩ : ∃ key, hkey [] key0 ([112, 108, 97, 99, 101] ++ (eights [u64 ph, u64 r, u64 a])) = key := ⟨_, rfl⟩
        rw [hkk] at HO HW ⊢
        have HKK := Lib.hid hkk
        clear hkk b6 hk4 iI
        refine ⟨_, rfl, c0_6, ?_⟩
        simp only [Act.put, Z1, Z2, Z3]
        refine Held.one 16 (by kernel_rfl) ?_
        refine Held.op_store_RowL 16 none 22 gr 22 .u8 _ key rfl rfl rfl rfl rfl rfl n5 32 info_32 HO.out (by simp) HW.out ?_
        intro wz rz gz
        have c0_7 : Below gr w2 wz := (e6.mono hg2).grown gz (Nat.le_trans hg2 e6.size) (fun r e => by cases e; exact Nat.le_refl _)
        have d5 := bw.trans (e6.mono bw.size)
        have dz := d5.grown gz d5.size (fun r e => by cases e; exact hgrw)
        refine ⟨c0_7, ?_⟩
        simp only [Act.put]
        refine wpAnyH_done (by kernel_rfl) ?_ _
        go_wp2_with fail
        exact bodyPost_ret (results_Row rfl _ _ gr _ _ _ rfl rz 32 5 Tryz.underlying22 info_32 HO.out) rfl ⟨by rw [← HKK.out]; exact rfl, dz⟩
      · have rT0 := rT.lt
        refine Held.op_call 13 (some 18) 45 #[.slice (some ⟨q, 0, none⟩) 3 3] rfl rfl rfl rfl (enters_of Tryz.func45 (by kernel_rfl) rfl) (by simp [Act.eval]) (eights_any x2.heap.size _ 3 3 [u64 ph, u64 r, u64 a] x2 (rN.ints (n := 3) (by simp)) (Nat.le_refl _) (by omega)) ?_
        rintro e x3 ⟨AE, nE, cE, rfl, oE, b3⟩
        have HNE := Lib.hid (show nE = 24 from (OwnM.of oE).caps.1.symm.trans (eights_length _))
        have iE := oE.ints (show (eights [u64 ph, u64 r, u64 a]).length = nE by rw [eights_length, HNE.out]; rfl)
        have e3 := e2.trans (b3.mono e2.size)
        have rT := rT.below b3 rT.lt
        have c0_3 := e3.mono hg2
        have iE_of : ∀ {wm : World}, x3.grownBy wm (some p) → Ints wm .u8 wm.heap.size AE nE (eights [u64 ph, u64 r, u64 a]) := fun {wm} g => (oE.kept g (by cases hq : (Value.slice AE nE cE).ownBlock with | none => exact .inl rfl | some r => exact .inr (fun e => by injection e with e; have h1 := (oE.2.lt r hq).1; have h2 := rT0; subst e; omega))).ints (show (eights [u64 ph, u64 r, u64 a]).length = nE by rw [eights_length, HNE.out]; rfl)
        refine ⟨_, rfl, c0_3, ?_⟩
        simp only [Act.put, Z1, Z2, Z3]
        refine Held.one 2 (by kernel_rfl) ?_
        refine op_mark 2 (some 7) 27 p 5 [112, 108, 97, 99, 101] rfl rfl rfl rfl rfl Tryz.underlying27 Tryz.underlying5 rT ?_
        intro x4 rM gM
        have e4 := e3.grown gM e3.size (fun r e => by cases e; exact hpl)
        have iE := iE_of gM
        have c0_4 := e4.mono hg2
        clear rT gM
        refine ⟨c0_4, ?_⟩
        simp only [Act.put, Z1, Z2, Z3]
        refine Held.one 14 (by kernel_rfl) ?_
        refine op_append_text 14 (some 19) 27 rfl rfl rfl rfl Tryz.underlying27 info_u8 p 5 [112, 108, 97, 99, 101] rfl rM rfl x4.heap.size AE nE cE (eights [u64 ph, u64 r, u64 a]) rfl iE (by first | omega | (have := HNE.out; omega)) (by first | omega | (have := HNE.out; omega)) ?_
        intro AI nI cI x5 oI bb hI1 hI2 hI3
        have iI := oI.ints (show ([112, 108, 97, 99, 101] ++ (eights [u64 ph, u64 r, u64 a])).length = nI by rw [List.length_append, hI3.out, eights_length, HNE.out]; rfl)
        have hnI : nI ≤ 100 := by have := hI3.out; first | omega | (have := HNE.out; omega)
        have e5 := e4.trans (bb.mono e4.size)
        have c0_5 := e5.mono hg2
        clear oI bb rM iE
        refine ⟨c0_5, ?_⟩
        simp only [Act.put, Z1, Z2, Z3]
        refine Held.one 15 (by kernel_rfl) ?_
        have hk4 := (k1.below e5 k1.lt).ints (n := 32) (by rw [HK.out]; omega)
        rw [List.take_of_length_le (by rw [HK.out]; omega)] at hk4
        refine Held.op_call 15 (some 20) 44 #[.slice none 0 0, .slice (some ⟨ga, 0, none⟩) 32 32, .slice AI nI cI] rfl rfl rfl rfl (enters_of Tryz.func44 (by kernel_rfl) rfl) (by simp [Act.eval]) (rkey_any x5.heap.size x5.heap.size x5.heap.size none (some ⟨ga, 0, none⟩) AI 0 0 32 32 nI cI [] key0 ([112, 108, 97, 99, 101] ++ (eights [u64 ph, u64 r, u64 a])) x5 (Ints.nil _ _ _ _) (Nat.le_refl _) (by omega) hk4 (Nat.le_refl _) (by omega) iI (Nat.le_refl _) (by omega)) ?_
        rintro e x6 ⟨rfl, b6⟩
        have e6 := e5.trans (b6.mono e5.size)
        have c0_6 := e6.mono hg2
        have n5 := r2.below e6 r2.lt
        have HO := Lib.hid (hkey_length [] key0 ([112, 108, 97, 99, 101] ++ (eights [u64 ph, u64 r, u64 a])))
        have HW := Lib.hid (hkey_wf [] key0 ([112, 108, 97, 99, 101] ++ (eights [u64 ph, u64 r, u64 a])))
        obtain ⟨key, hkk⟩ : ∃ key, hkey [] key0 ([112, 108, 97, 99, 101] ++ (eights [u64 ph, u64 r, u64 a])) = key := ⟨_, rfl⟩
        rw [hkk] at HO HW ⊢
        have HKK := Lib.hid hkk
        clear hkk b6 hk4 iI
        refine ⟨_, rfl, c0_6, ?_⟩
        simp only [Act.put, Z1, Z2, Z3]
        refine Held.one 16 (by kernel_rfl) ?_
        refine Held.op_store_RowL 16 none 22 gr 22 .u8 _ key rfl rfl rfl rfl rfl rfl n5 32 info_32 HO.out (by simp) HW.out ?_
        intro wz rz gz
        have c0_7 : Below gr w2 wz := (e6.mono hg2).grown gz (Nat.le_trans hg2 e6.size) (fun r e => by cases e; exact Nat.le_refl _)
        have d5 := bw.trans (e6.mono bw.size)
        have dz := d5.grown gz d5.size (fun r e => by cases e; exact hgrw)
        refine ⟨c0_7, ?_⟩
        simp only [Act.put]
        refine wpAnyH_done (by kernel_rfl) ?_ _
        go_wp2_with fail
        exact bodyPost_ret (results_Row rfl _ _ gr _ _ _ rfl rz 32 5 Tryz.underlying22 info_32 HO.out) rfl ⟨by rw [← HKK.out]; exact rfl, dz⟩
  · refine Held.op_build_Row 12 (some 17) 96 23 3 .u64 8 [u64 ph, u64 r, u64 a] rfl rfl rfl rfl Tryz.underlying96 info_w64 (by simp [Act.eval]) rfl (by omega) (by omega) hwid ?_
    intro q x1 rN bb hq
    have b1 : Below w2.drew.heap.size w2.drew x1 := ⟨bb.os, bb.tape, bb.output, bb.size, bb.block⟩
    have e1 := e0.trans (b1.mono e0.size)
    have c0_1 := e1.mono hg2
    clear bb hq
    refine ⟨c0_1, ?_⟩
    simp only [Act.put, Z1, Z2, Z3]
    refine Held.two 1 13 (by kernel_rfl) ?_ ?_
    · refine Held.op_build_Row 1 (some 6) 27 5 5 .u8 1 [112, 108, 97, 99, 101] rfl rfl rfl rfl Tryz.underlying27 info_u8 (by simp [Act.eval]) rfl (by omega) (by omega) (by decide) ?_
      intro p x2 rT bb hp
      have b2 : Below x1.heap.size x1 x2 := ⟨bb.os, bb.tape, bb.output, bb.size, bb.block⟩
      have hpl : w2.heap.size ≤ p := Nat.le_trans e1.size hp.out
      have hqp : q ≠ p := fun e => by subst e; exact absurd (Nat.lt_of_lt_of_le rN.lt hp.out) (Nat.lt_irrefl _)
      have e2 := e1.trans (b2.mono e1.size)
      have rN := rN.below b2 rN.lt
      have c0_2 := e2.mono hg2
      clear bb hp
      refine ⟨c0_2, ?_⟩
      simp only [Act.put, Z1, Z2, Z3]
      refine Held.two 2 13 (by kernel_rfl) ?_ ?_
      · refine op_mark 2 (some 7) 27 p 5 [112, 108, 97, 99, 101] rfl rfl rfl rfl rfl Tryz.underlying27 Tryz.underlying5 rT ?_
        intro x3 rM gM
        have e3 := e2.grown gM e2.size (fun r e => by cases e; exact hpl)
        have rN := rN.grown gM (by intro e; injection e with e; exact hqp e)
        have c0_3 := e3.mono hg2
        clear rT gM
        refine ⟨c0_3, ?_⟩
        simp only [Act.put, Z1, Z2, Z3]
        refine Held.one 13 (by kernel_rfl) ?_
        refine Held.op_call 13 (some 18) 45 #[.slice (some ⟨q, 0, none⟩) 3 3] rfl rfl rfl rfl (enters_of Tryz.func45 (by kernel_rfl) rfl) (by simp [Act.eval]) (eights_any x3.heap.size _ 3 3 [u64 ph, u64 r, u64 a] x3 (rN.ints (n := 3) (by simp)) (Nat.le_refl _) (by omega)) ?_
        rintro e x4 ⟨AE, nE, cE, rfl, oE, b4⟩
        have HNE := Lib.hid (show nE = 24 from (OwnM.of oE).caps.1.symm.trans (eights_length _))
        have iE := oE.ints (show (eights [u64 ph, u64 r, u64 a]).length = nE by rw [eights_length, HNE.out]; rfl)
        have e4 := e3.trans (b4.mono e3.size)
        have rM := rM.below b4
        have c0_4 := e4.mono hg2
        clear oE
        refine ⟨_, rfl, c0_4, ?_⟩
        simp only [Act.put, Z1, Z2, Z3]
        refine Held.one 14 (by kernel_rfl) ?_
        refine op_append_text 14 (some 19) 27 rfl rfl rfl rfl Tryz.underlying27 info_u8 p 5 [112, 108, 97, 99, 101] rfl rM rfl x4.heap.size AE nE cE (eights [u64 ph, u64 r, u64 a]) rfl iE (by first | omega | (have := HNE.out; omega)) (by first | omega | (have := HNE.out; omega)) ?_
        intro AI nI cI x5 oI bb hI1 hI2 hI3
        have iI := oI.ints (show ([112, 108, 97, 99, 101] ++ (eights [u64 ph, u64 r, u64 a])).length = nI by rw [List.length_append, hI3.out, eights_length, HNE.out]; rfl)
        have hnI : nI ≤ 100 := by have := hI3.out; first | omega | (have := HNE.out; omega)
        have e5 := e4.trans (bb.mono e4.size)
        have c0_5 := e5.mono hg2
        clear oI bb rM iE
        refine ⟨c0_5, ?_⟩
        simp only [Act.put, Z1, Z2, Z3]
        refine Held.one 15 (by kernel_rfl) ?_
        have hk4 := (k1.below e5 k1.lt).ints (n := 32) (by rw [HK.out]; omega)
        rw [List.take_of_length_le (by rw [HK.out]; omega)] at hk4
        refine Held.op_call 15 (some 20) 44 #[.slice none 0 0, .slice (some ⟨ga, 0, none⟩) 32 32, .slice AI nI cI] rfl rfl rfl rfl (enters_of Tryz.func44 (by kernel_rfl) rfl) (by simp [Act.eval]) (rkey_any x5.heap.size x5.heap.size x5.heap.size none (some ⟨ga, 0, none⟩) AI 0 0 32 32 nI cI [] key0 ([112, 108, 97, 99, 101] ++ (eights [u64 ph, u64 r, u64 a])) x5 (Ints.nil _ _ _ _) (Nat.le_refl _) (by omega) hk4 (Nat.le_refl _) (by omega) iI (Nat.le_refl _) (by omega)) ?_
        rintro e x6 ⟨rfl, b6⟩
        have e6 := e5.trans (b6.mono e5.size)
        have c0_6 := e6.mono hg2
        have n5 := r2.below e6 r2.lt
        have HO := Lib.hid (hkey_length [] key0 ([112, 108, 97, 99, 101] ++ (eights [u64 ph, u64 r, u64 a])))
        have HW := Lib.hid (hkey_wf [] key0 ([112, 108, 97, 99, 101] ++ (eights [u64 ph, u64 r, u64 a])))
        obtain ⟨key, hkk⟩ : ∃ key, hkey [] key0 ([112, 108, 97, 99, 101] ++ (eights [u64 ph, u64 r, u64 a])) = key := ⟨_, rfl⟩
        rw [hkk] at HO HW ⊢
        have HKK := Lib.hid hkk
        clear hkk b6 hk4 iI
        refine ⟨_, rfl, c0_6, ?_⟩
        simp only [Act.put, Z1, Z2, Z3]
        refine Held.one 16 (by kernel_rfl) ?_
        refine Held.op_store_RowL 16 none 22 gr 22 .u8 _ key rfl rfl rfl rfl rfl rfl n5 32 info_32 HO.out (by simp) HW.out ?_
        intro wz rz gz
        have c0_7 : Below gr w2 wz := (e6.mono hg2).grown gz (Nat.le_trans hg2 e6.size) (fun r e => by cases e; exact Nat.le_refl _)
        have d5 := bw.trans (e6.mono bw.size)
        have dz := d5.grown gz d5.size (fun r e => by cases e; exact hgrw)
        refine ⟨c0_7, ?_⟩
        simp only [Act.put]
        refine wpAnyH_done (by kernel_rfl) ?_ _
        go_wp2_with fail
        exact bodyPost_ret (results_Row rfl _ _ gr _ _ _ rfl rz 32 5 Tryz.underlying22 info_32 HO.out) rfl ⟨by rw [← HKK.out]; exact rfl, dz⟩
      · have rT0 := rT.lt
        refine Held.op_call 13 (some 18) 45 #[.slice (some ⟨q, 0, none⟩) 3 3] rfl rfl rfl rfl (enters_of Tryz.func45 (by kernel_rfl) rfl) (by simp [Act.eval]) (eights_any x2.heap.size _ 3 3 [u64 ph, u64 r, u64 a] x2 (rN.ints (n := 3) (by simp)) (Nat.le_refl _) (by omega)) ?_
        rintro e x3 ⟨AE, nE, cE, rfl, oE, b3⟩
        have HNE := Lib.hid (show nE = 24 from (OwnM.of oE).caps.1.symm.trans (eights_length _))
        have iE := oE.ints (show (eights [u64 ph, u64 r, u64 a]).length = nE by rw [eights_length, HNE.out]; rfl)
        have e3 := e2.trans (b3.mono e2.size)
        have rT := rT.below b3 rT.lt
        have c0_3 := e3.mono hg2
        have iE_of : ∀ {wm : World}, x3.grownBy wm (some p) → Ints wm .u8 wm.heap.size AE nE (eights [u64 ph, u64 r, u64 a]) := fun {wm} g => (oE.kept g (by cases hq : (Value.slice AE nE cE).ownBlock with | none => exact .inl rfl | some r => exact .inr (fun e => by injection e with e; have h1 := (oE.2.lt r hq).1; have h2 := rT0; subst e; omega))).ints (show (eights [u64 ph, u64 r, u64 a]).length = nE by rw [eights_length, HNE.out]; rfl)
        refine ⟨_, rfl, c0_3, ?_⟩
        simp only [Act.put, Z1, Z2, Z3]
        refine Held.one 2 (by kernel_rfl) ?_
        refine op_mark 2 (some 7) 27 p 5 [112, 108, 97, 99, 101] rfl rfl rfl rfl rfl Tryz.underlying27 Tryz.underlying5 rT ?_
        intro x4 rM gM
        have e4 := e3.grown gM e3.size (fun r e => by cases e; exact hpl)
        have iE := iE_of gM
        have c0_4 := e4.mono hg2
        clear rT gM
        refine ⟨c0_4, ?_⟩
        simp only [Act.put, Z1, Z2, Z3]
        refine Held.one 14 (by kernel_rfl) ?_
        refine op_append_text 14 (some 19) 27 rfl rfl rfl rfl Tryz.underlying27 info_u8 p 5 [112, 108, 97, 99, 101] rfl rM rfl x4.heap.size AE nE cE (eights [u64 ph, u64 r, u64 a]) rfl iE (by first | omega | (have := HNE.out; omega)) (by first | omega | (have := HNE.out; omega)) ?_
        intro AI nI cI x5 oI bb hI1 hI2 hI3
        have iI := oI.ints (show ([112, 108, 97, 99, 101] ++ (eights [u64 ph, u64 r, u64 a])).length = nI by rw [List.length_append, hI3.out, eights_length, HNE.out]; rfl)
        have hnI : nI ≤ 100 := by have := hI3.out; first | omega | (have := HNE.out; omega)
        have e5 := e4.trans (bb.mono e4.size)
        have c0_5 := e5.mono hg2
        clear oI bb rM iE
        refine ⟨c0_5, ?_⟩
        simp only [Act.put, Z1, Z2, Z3]
        refine Held.one 15 (by kernel_rfl) ?_
        have hk4 := (k1.below e5 k1.lt).ints (n := 32) (by rw [HK.out]; omega)
        rw [List.take_of_length_le (by rw [HK.out]; omega)] at hk4
        refine Held.op_call 15 (some 20) 44 #[.slice none 0 0, .slice (some ⟨ga, 0, none⟩) 32 32, .slice AI nI cI] rfl rfl rfl rfl (enters_of Tryz.func44 (by kernel_rfl) rfl) (by simp [Act.eval]) (rkey_any x5.heap.size x5.heap.size x5.heap.size none (some ⟨ga, 0, none⟩) AI 0 0 32 32 nI cI [] key0 ([112, 108, 97, 99, 101] ++ (eights [u64 ph, u64 r, u64 a])) x5 (Ints.nil _ _ _ _) (Nat.le_refl _) (by omega) hk4 (Nat.le_refl _) (by omega) iI (Nat.le_refl _) (by omega)) ?_
        rintro e x6 ⟨rfl, b6⟩
        have e6 := e5.trans (b6.mono e5.size)
        have c0_6 := e6.mono hg2
        have n5 := r2.below e6 r2.lt
        have HO := Lib.hid (hkey_length [] key0 ([112, 108, 97, 99, 101] ++ (eights [u64 ph, u64 r, u64 a])))
        have HW := Lib.hid (hkey_wf [] key0 ([112, 108, 97, 99, 101] ++ (eights [u64 ph, u64 r, u64 a])))
        obtain ⟨key, hkk⟩ : ∃ key, hkey [] key0 ([112, 108, 97, 99, 101] ++ (eights [u64 ph, u64 r, u64 a])) = key := ⟨_, rfl⟩
        rw [hkk] at HO HW ⊢
        have HKK := Lib.hid hkk
        clear hkk b6 hk4 iI
        refine ⟨_, rfl, c0_6, ?_⟩
        simp only [Act.put, Z1, Z2, Z3]
        refine Held.one 16 (by kernel_rfl) ?_
        refine Held.op_store_RowL 16 none 22 gr 22 .u8 _ key rfl rfl rfl rfl rfl rfl n5 32 info_32 HO.out (by simp) HW.out ?_
        intro wz rz gz
        have c0_7 : Below gr w2 wz := (e6.mono hg2).grown gz (Nat.le_trans hg2 e6.size) (fun r e => by cases e; exact Nat.le_refl _)
        have d5 := bw.trans (e6.mono bw.size)
        have dz := d5.grown gz d5.size (fun r e => by cases e; exact hgrw)
        refine ⟨c0_7, ?_⟩
        simp only [Act.put]
        refine wpAnyH_done (by kernel_rfl) ?_ _
        go_wp2_with fail
        exact bodyPost_ret (results_Row rfl _ _ gr _ _ _ rfl rz 32 5 Tryz.underlying22 info_32 HO.out) rfl ⟨by rw [← HKK.out]; exact rfl, dz⟩
    · refine Held.op_call 13 (some 18) 45 #[.slice (some ⟨q, 0, none⟩) 3 3] rfl rfl rfl rfl (enters_of Tryz.func45 (by kernel_rfl) rfl) (by simp [Act.eval]) (eights_any x1.heap.size _ 3 3 [u64 ph, u64 r, u64 a] x1 (rN.ints (n := 3) (by simp)) (Nat.le_refl _) (by omega)) ?_
      rintro e x2 ⟨AE, nE, cE, rfl, oE, b2⟩
      have HNE := Lib.hid (show nE = 24 from (OwnM.of oE).caps.1.symm.trans (eights_length _))
      have iE := oE.ints (show (eights [u64 ph, u64 r, u64 a]).length = nE by rw [eights_length, HNE.out]; rfl)
      have e2 := e1.trans (b2.mono e1.size)
      have c0_2 := e2.mono hg2
      clear oE
      refine ⟨_, rfl, c0_2, ?_⟩
      simp only [Act.put, Z1, Z2, Z3]
      refine Held.one 1 (by kernel_rfl) ?_
      refine Held.op_build_Row 1 (some 6) 27 5 5 .u8 1 [112, 108, 97, 99, 101] rfl rfl rfl rfl Tryz.underlying27 info_u8 (by simp [Act.eval]) rfl (by omega) (by omega) (by decide) ?_
      intro p x3 rT bb hp
      have b3 : Below x2.heap.size x2 x3 := ⟨bb.os, bb.tape, bb.output, bb.size, bb.block⟩
      have hpl : w2.heap.size ≤ p := Nat.le_trans e2.size hp.out
      have iE_of : ∀ {wm : World}, x3.grownBy wm (some p) → Ints wm .u8 wm.heap.size AE nE (eights [u64 ph, u64 r, u64 a]) := fun {wm} g => ((iE.below b3).keep (fun z hz => World.cell?_of_block (g.block _ (Nat.lt_of_lt_of_le hz b3.size) (fun e => by injection e with e; have h1 : x2.heap.size ≤ p := hp.out; omega)))).more (Nat.le_trans b3.size g.size)
      have e3 := e2.trans (b3.mono e2.size)
      have iE := (iE.below b3).more b3.size
      have c0_3 := e3.mono hg2
      clear bb hp
      refine ⟨c0_3, ?_⟩
      simp only [Act.put, Z1, Z2, Z3]
      refine Held.one 2 (by kernel_rfl) ?_
      refine op_mark 2 (some 7) 27 p 5 [112, 108, 97, 99, 101] rfl rfl rfl rfl rfl Tryz.underlying27 Tryz.underlying5 rT ?_
      intro x4 rM gM
      have e4 := e3.grown gM e3.size (fun r e => by cases e; exact hpl)
      have iE := iE_of gM
      have c0_4 := e4.mono hg2
      clear rT gM
      refine ⟨c0_4, ?_⟩
      simp only [Act.put, Z1, Z2, Z3]
      refine Held.one 14 (by kernel_rfl) ?_
      refine op_append_text 14 (some 19) 27 rfl rfl rfl rfl Tryz.underlying27 info_u8 p 5 [112, 108, 97, 99, 101] rfl rM rfl x4.heap.size AE nE cE (eights [u64 ph, u64 r, u64 a]) rfl iE (by first | omega | (have := HNE.out; omega)) (by first | omega | (have := HNE.out; omega)) ?_
      intro AI nI cI x5 oI bb hI1 hI2 hI3
      have iI := oI.ints (show ([112, 108, 97, 99, 101] ++ (eights [u64 ph, u64 r, u64 a])).length = nI by rw [List.length_append, hI3.out, eights_length, HNE.out]; rfl)
      have hnI : nI ≤ 100 := by have := hI3.out; first | omega | (have := HNE.out; omega)
      have e5 := e4.trans (bb.mono e4.size)
      have c0_5 := e5.mono hg2
      clear oI bb rM iE
      refine ⟨c0_5, ?_⟩
      simp only [Act.put, Z1, Z2, Z3]
      refine Held.one 15 (by kernel_rfl) ?_
      have hk4 := (k1.below e5 k1.lt).ints (n := 32) (by rw [HK.out]; omega)
      rw [List.take_of_length_le (by rw [HK.out]; omega)] at hk4
      refine Held.op_call 15 (some 20) 44 #[.slice none 0 0, .slice (some ⟨ga, 0, none⟩) 32 32, .slice AI nI cI] rfl rfl rfl rfl (enters_of Tryz.func44 (by kernel_rfl) rfl) (by simp [Act.eval]) (rkey_any x5.heap.size x5.heap.size x5.heap.size none (some ⟨ga, 0, none⟩) AI 0 0 32 32 nI cI [] key0 ([112, 108, 97, 99, 101] ++ (eights [u64 ph, u64 r, u64 a])) x5 (Ints.nil _ _ _ _) (Nat.le_refl _) (by omega) hk4 (Nat.le_refl _) (by omega) iI (Nat.le_refl _) (by omega)) ?_
      rintro e x6 ⟨rfl, b6⟩
      have e6 := e5.trans (b6.mono e5.size)
      have c0_6 := e6.mono hg2
      have n5 := r2.below e6 r2.lt
      have HO := Lib.hid (hkey_length [] key0 ([112, 108, 97, 99, 101] ++ (eights [u64 ph, u64 r, u64 a])))
      have HW := Lib.hid (hkey_wf [] key0 ([112, 108, 97, 99, 101] ++ (eights [u64 ph, u64 r, u64 a])))
      obtain ⟨key, hkk⟩ : ∃ key, hkey [] key0 ([112, 108, 97, 99, 101] ++ (eights [u64 ph, u64 r, u64 a])) = key := ⟨_, rfl⟩
      rw [hkk] at HO HW ⊢
      have HKK := Lib.hid hkk
      clear hkk b6 hk4 iI
      refine ⟨_, rfl, c0_6, ?_⟩
      simp only [Act.put, Z1, Z2, Z3]
      refine Held.one 16 (by kernel_rfl) ?_
      refine Held.op_store_RowL 16 none 22 gr 22 .u8 _ key rfl rfl rfl rfl rfl rfl n5 32 info_32 HO.out (by simp) HW.out ?_
      intro wz rz gz
      have c0_7 : Below gr w2 wz := (e6.mono hg2).grown gz (Nat.le_trans hg2 e6.size) (fun r e => by cases e; exact Nat.le_refl _)
      have d5 := bw.trans (e6.mono bw.size)
      have dz := d5.grown gz d5.size (fun r e => by cases e; exact hgrw)
      refine ⟨c0_7, ?_⟩
      simp only [Act.put]
      refine wpAnyH_done (by kernel_rfl) ?_ _
      go_wp2_with fail
      exact bodyPost_ret (results_Row rfl _ _ gr _ _ _ rfl rz 32 5 Tryz.underlying22 info_32 HO.out) rfl ⟨by rw [← HKK.out]; exact rfl, dz⟩
end Go.Proofs.YtjelacblnjbfgaaGreatDoor.Ky
namespace Go.Proofs.YtjelacblnjbfgaaGreatDoor.Rs
open Go.RowKit Go.Shelf Go.Proofs.YtjelacblnjbfgaaGreatDoor Mem Help Go.Proofs.YtjelacblnjbfgaaGreatDoor.Sum Po Ky Ae Hkdf Held Rc
attribute [local irreducible] wpList wpListIn Calls
theorem kp_length (job : List Int) (ph rr ad : Int) : (kPlace job ph rr ad).length = 32 := hkey_length _ _ _
theorem kp_bytes (job : List Int) (ph rr ad : Int) : Bs (kPlace job ph rr ad) := bs_of (hkey_wf _ _ _)
def blockS (job : List Int) (ph rr ad tm ix : Int) (rs : List R) (size : Nat) : List Int :=
  sealed (kPlace job ph rr ad) (nonce tm ix) (kAad ph rr ad tm ix (32 * (size : Int))) (packs (pad rs size))
def oE (key nonce aad b : List Int) : Int := if b.length < 16 then 3 else match opened key nonce aad b with | none => 6 | some _ => 0
def oP (key nonce aad b : List Int) : List Int := if b.length < 16 then [] else (opened key nonce aad b).getD []
theorem ropen_uni (key nonce : List Int) (B : Nat) (A : Option Addr) (n c : Nat) (xs : List Int) (B2 : Nat) (A2 : Option Addr) (n2 c2 : Nat) (ys : List Int) (w : World) (hk : key.length = 32) (hkb : Bs key) (hnl : nonce.length = 12) (hnb : Bs nonce)
    (h : Ints w .u8 B A n xs) (hB : B ≤ w.heap.size) (hn : n ≤ 65536) (h2 : Ints w .u8 B2 A2 n2 ys) (hB2 : B2 ≤ w.heap.size) (hf : Flat A2 c2) (hc2 : n2 ≤ c2) (hn2 : n2 ≤ 65552) :
    Calls Tryz.prog 28 #[.agg (arr .u8 key), .agg (arr .u8 nonce), .slice A n c, .slice A2 n2 c2] w fun e w' => ∃ A' m c', e = .returned (.tuple #[.slice A' m c', .int .i64 (oE key nonce xs ys)]) ∧ Hid ((oP key nonce xs ys).length = m) ∧ Mem.Own w' w.heap.size 5 .u8 (.slice A' m c') (oP key nonce xs ys) ∧ Below w.heap.size w w' := by
  have hl := h2.1
  by_cases hs : n2 < 16
  · refine (ropen_short key nonce A n c A2 n2 c2 w hkb hnb hn hs).mono ?_
    rintro e w' ⟨rfl, hw⟩
    have h1 : oE key nonce xs ys = 3 := if_pos (by omega)
    have h2 : oP key nonce xs ys = [] := if_pos (by omega)
    rw [h1, h2]
    exact ⟨none, 0, 0, rfl, Lib.hid rfl, Own.nil _ _ _ _, hw⟩
  · obtain ⟨q, hq⟩ : ∃ q, n2 = q + 16 := ⟨n2 - 16, by omega⟩
    refine (ropen_any key nonce B A n c xs B2 A2 n2 c2 q ys w hk hkb hnl hnb h hB hn h2 hB2 hf hc2 hq (by omega)).mono ?_
    rintro e w' ⟨hw, ⟨ho, rfl⟩ | ⟨p, A', c', ho, hp, rfl, op⟩⟩
    · have h1 : oE key nonce xs ys = 6 := by rw [oE, if_neg (by omega), ho]
      have h2 : oP key nonce xs ys = [] := by rw [oP, if_neg (by omega), ho]; rfl
      rw [h1, h2]
      exact ⟨none, 0, 0, rfl, Lib.hid rfl, Own.nil _ _ _ _, hw⟩
    · have h1 : oE key nonce xs ys = 0 := by rw [oE, if_neg (by omega), ho]
      have h2 : oP key nonce xs ys = p := by rw [oP, if_neg (by omega), ho]; rfl
      rw [h1, h2]
      exact ⟨A', q, c', rfl, Lib.hid hp, op, hw⟩
def blockOE (job : List Int) (ph rr ad tm ix size : Int) (b : List Int) : Int :=
  if mayS size = false then 1 else if oE (kPlace job ph rr ad) (nonce tm ix) (kAad ph rr ad tm ix (32 * size)) b = 0 then takesE (oP (kPlace job ph rr ad) (nonce tm ix) (kAad ph rr ad tm ix (32 * size)) b) size
  else oE (kPlace job ph rr ad) (nonce tm ix) (kAad ph rr ad tm ix (32 * size)) b
def blockOR (job : List Int) (ph rr ad tm ix size : Int) (b : List Int) : List R :=
  if mayS size = false then [] else if oE (kPlace job ph rr ad) (nonce tm ix) (kAad ph rr ad tm ix (32 * size)) b = 0 then takesR (oP (kPlace job ph rr ad) (nonce tm ix) (kAad ph rr ad tm ix (32 * size)) b) size
  else []
theorem OwnR.less {w : World} {base b : Nat} {v : Value} {rs : List R} (h : OwnR w base v rs) (hb : b ≤ base) : OwnR w b v rs := by
  rcases h with ⟨h1, h2 | ⟨g, cap, cur, e, hg, hr⟩⟩
  · exact ⟨h1, .inl h2⟩
  · exact ⟨h1, .inr ⟨g, cap, cur, e, Nat.le_trans hb hg, hr⟩⟩
set_option maxRecDepth 100000 in
set_option maxHeartbeats 16000000 in
theorem ropens_may (job : List Int) (hk : job.length = 32) (hkb : ∀ z ∈ job, (Lit.int .u8 z).wf = true) (ph rr ad tm ix : Int) (ht : (Lit.int .u64 tm).wf = true) (B : Nat) (A : Option Addr) (n c : Nat) (zs : List Int) (size : Int) (w : World) (h : Ints w .u8 B A n zs) (hB : B ≤ w.heap.size) (hf : Flat A c) (hc : n ≤ c) (hn : n ≤ 65552) (hs : mayS size = true) :
    Calls Tryz.prog 9 #[.agg (arr .u8 job), .agg #[.int .i64 ph, .int .i64 rr, .int .i64 ad, .int .u64 tm, .int .i64 ix], .int .i64 size, .slice A n c] w fun e w' => ∃ A' n' c', e = .returned (.tuple #[.slice A' n' c', .int .i64 (blockOE job ph rr ad tm ix size zs)]) ∧ OwnR w' w.heap.size (.slice A' n' c') (blockOR job ph rr ad tm ix size zs) ∧ Below w.heap.size w w' := by
  obtain ⟨nz, hnz⟩ : ∃ nz : Int, 32 * size = nz := ⟨_, rfl⟩
  have hb : 1 ≤ size ∧ size ≤ 8 := by simpa [mayS] using hs
  have HW := Lib.hid (show IntKind.i64.wrap (32 * size) = nz by rw [IntKind.wrap_i64]; omega)
  have HNZ := Lib.hid hnz
  have HS := Lib.hid hs
  clear hnz hb
  go_enter Tryz.func9, Tryz.ntmps9
  go_wp2_with (first
    | (refine wpList_box_Row (w := w) rfl 22 _ rfl .u8 job rfl hkb ?_; intro u1 ra ga za)
    | (refine wpList_box_blk (w := u1) rfl 25 _ rfl #[.int .i64 ph, .int .i64 rr, .int .i64 ad, .int .u64 tm, .int .i64 ix] rfl ?_; intro u2 qp gb zb; have ra := ra.grown gb (by simp)))
  have bz : Below w.heap.size w u2 := ((Below.refl _ w).grown ga (Nat.le_refl _) (by simp)).grown gb ga.size (by simp)
  clear ga gb za zb
  refine (may_any size u2).mono ?_
  rintro e u3 ⟨rfl, rfl⟩
  rw [hs]
  clear hs
  have lra := ra.lt
  have lqp := qp.lt
  go_wp2_with fail
  refine wp_region_held (S := fun W => Below u2.heap.size u2 W) (by kernel_rfl) ?_
  change wpAnyH _ _ _ _ _ _ _ _ u2.drew
  have c0_0 := (Below.refl u2.heap.size u2).drew
  refine Held.tk (v := .agg (arr .u8 job)) 0 (some 16) rfl (Held.y_load_Row rfl rfl Tryz.underlying22 (by kernel_rfl) hk (fun W hW => ra.below hW lra)) c0_0 ?_
  simp only [Act.put, Z1, Z2, Z3]
  refine Held.tk (v := .agg #[.int .i64 ph, .int .i64 rr, .int .i64 ad, .int .u64 tm, .int .i64 ix]) 1 (some 17) rfl (Held.y_load_blk (n := 5) rfl rfl Tryz.underlying25 rfl (by kernel_rfl) rfl (fun W hW => qp.below hW lqp)) c0_0 ?_
  simp only [Act.put, Z1, Z2, Z3]
  refine Held.tk (v := .pointer (some ⟨u1.heap.size, 3, none⟩)) 3 (some 19) rfl (Held.y_field (k := 3) (s := 0) rfl rfl Tryz.underlying25 rfl (by kernel_rfl) rfl) c0_0 ?_
  simp only [Act.put, Z1, Z2, Z3]
  refine Held.tk (v := .int .u64 tm) 4 (some 20) rfl (Held.y_load rfl rfl (by kernel_rfl) (fun W hW => (qp.below hW lqp).cell rfl)) c0_0 ?_
  simp only [Act.put, Z1, Z2, Z3]
  refine Held.tk (v := .pointer (some ⟨u1.heap.size, 4, none⟩)) 5 (some 21) rfl (Held.y_field (k := 4) (s := 0) rfl rfl Tryz.underlying25 rfl (by kernel_rfl) rfl) c0_0 ?_
  simp only [Act.put, Z1, Z2, Z3]
  refine Held.tk (v := .int .i64 ix) 6 (some 22) rfl (Held.y_load rfl rfl (by kernel_rfl) (fun W hW => (qp.below hW lqp).cell rfl)) c0_0 ?_
  simp only [Act.put, Z1, Z2, Z3]
  refine Held.tk (v := .agg #[.int .i64 ph, .int .i64 rr, .int .i64 ad, .int .u64 tm, .int .i64 ix]) 8 (some 24) rfl (Held.y_load_blk (n := 5) rfl rfl Tryz.underlying25 rfl (by kernel_rfl) rfl (fun W hW => qp.below hW lqp)) c0_0 ?_
  simp only [Act.put, Z1, Z2, Z3]
  refine Held.tk (v := .int .i64 size) 9 (some 25) rfl (Held.y_move rfl rfl) c0_0 ?_
  simp only [Act.put, Z1, Z2, Z3]
  refine Held.tk (v := .int .i64 nz) 10 (some 26) rfl (Held.y_int rfl rfl rfl (Held.run_mul 3 .i64 (HW.out))) c0_0 ?_
  simp only [Act.put, Z1, Z2, Z3]
  refine Held.tk (v := .slice A n c) 12 (some 28) rfl (Held.y_move rfl rfl) c0_0 ?_
  simp only [Act.put, Z1, Z2, Z3]
  refine Held.one 2 (by kernel_rfl) ?_
  refine Held.op_call 2 (some 18) 21 #[.agg (arr .u8 job), .agg #[.int .i64 ph, .int .i64 rr, .int .i64 ad, .int .u64 tm, .int .i64 ix]] rfl rfl rfl rfl (enters_of Tryz.func21 (by kernel_rfl) rfl) (by simp [Act.eval])
    (rplace_any job hk hkb ph rr ad tm ix _) ?_
  rintro e w1 ⟨rfl, b1⟩
  have c0_1 := c0_0.trans (b1.mono c0_0.size)
  refine ⟨_, rfl, c0_1, ?_⟩
  simp only [Act.put, Z1, Z2, Z3]
  refine Held.one 7 (by kernel_rfl) ?_
  refine Held.op_call 7 (some 23) 22 #[.int .u64 tm, .int .i64 ix] rfl rfl rfl rfl (enters_of Tryz.func22 (by kernel_rfl) rfl) (by simp [Act.eval])
    (rnonce_any tm ix _) ?_
  rintro e w2 ⟨rfl, b2⟩
  have c0_2 := c0_1.trans (b2.mono c0_1.size)
  refine ⟨_, rfl, c0_2, ?_⟩
  simp only [Act.put, Z1, Z2, Z3]
  refine Held.one 11 (by kernel_rfl) ?_
  refine Held.op_call 11 (some 27) 23 #[.agg #[.int .i64 ph, .int .i64 rr, .int .i64 ad, .int .u64 tm, .int .i64 ix], .int .i64 nz] rfl rfl rfl rfl (enters_of Tryz.func23 (by kernel_rfl) rfl) (by simp [Act.eval])
    (raad_any ph rr ad tm ix nz ht _) ?_
  rintro e w3 ⟨pA, pn, pc, rfl, oa, b3⟩
  have c0_3 := c0_2.trans (b3.mono c0_2.size)
  refine ⟨_, rfl, c0_3, ?_⟩
  simp only [Act.put, Z1, Z2, Z3]
  refine Held.one 13 (by kernel_rfl) ?_
  refine Held.op_call 13 (some 29) 28 #[.agg (arr .u8 (kPlace job ph rr ad)), .agg (arr .u8 (nonce tm ix)), .slice pA pn pc, .slice A n c] rfl rfl rfl rfl (enters_of Tryz.func28 (by kernel_rfl) rfl) (by simp [Act.eval])
    (ropen_uni (kPlace job ph rr ad) (nonce tm ix) w3.heap.size pA pn pc (kAad ph rr ad tm ix nz) B A n c zs _ (kp_length _ _ _ _) (kp_bytes _ _ _ _) (nonce_length _ _) (nonce_bytes _ _) (oa.ints oa.caps.1) (Nat.le_refl _) (by have := oa.caps.1; rw [kAad_length] at this; omega) (h.below ((bz.trans (c0_3.mono bz.size)).mono hB)) (Nat.le_trans hB (Nat.le_trans bz.size c0_3.size)) hf hc hn) ?_
  rintro e w4 ⟨sA, sm, sc, rfl, hsm, os, b4⟩
  have c0_4 := c0_3.trans (b4.mono c0_3.size)
  refine ⟨_, rfl, c0_4, ?_⟩
  simp only [Act.put, Z1, Z2, Z3]
  refine Held.tk (v := .tuple #[.slice sA sm sc, .int .i64 (oE (kPlace job ph rr ad) (nonce tm ix) (kAad ph rr ad tm ix nz) zs)]) 14 (some 15) rfl (Held.y_move rfl rfl) c0_4 ?_
  simp only [Act.put, Z1, Z2, Z3]
  refine Held.tk (v := .slice sA sm sc) 15 (some 30) rfl (Held.y_extract rfl rfl rfl) c0_4 ?_
  simp only [Act.put, Z1, Z2, Z3]
  refine Held.tk (v := .int .i64 (oE (kPlace job ph rr ad) (nonce tm ix) (kAad ph rr ad tm ix nz) zs)) 16 (some 31) rfl (Held.y_extract rfl rfl rfl) c0_4 ?_
  simp only [Act.put, Z1, Z2, Z3]
  refine Held.tk (v := .slice sA sm sc) 17 (some 10) rfl (Held.y_assign rfl rfl) c0_4 ?_
  simp only [Act.put, Z1, Z2, Z3]
  refine Held.tk (v := .int .i64 (oE (kPlace job ph rr ad) (nonce tm ix) (kAad ph rr ad tm ix nz) zs)) 18 (some 11) rfl (Held.y_assign rfl rfl) c0_4 ?_
  simp only [Act.put, Z1, Z2, Z3]
  refine wpAnyH_done (by kernel_rfl) ?_ _
  have dz := bz.trans (c0_4.mono bz.size)
  obtain ⟨E, hE⟩ : ∃ E, oE (kPlace job ph rr ad) (nonce tm ix) (kAad ph rr ad tm ix nz) zs = E := ⟨_, rfl⟩
  obtain ⟨pl, hP⟩ : ∃ pl, oP (kPlace job ph rr ad) (nonce tm ix) (kAad ph rr ad tm ix nz) zs = pl := ⟨_, rfl⟩
  rw [hE]
  rw [hP] at os hsm
  have HEE := Lib.hid hE
  have HP := Lib.hid hP
  clear hE hP
  have hcap : sm ≤ sc := by
    obtain ⟨A2, c2, e, hle, _⟩ := os.form
    injection e with e1 e2 e3
    omega
  by_cases h0 : E = 0
  · subst h0
    have H1 := Lib.hid (show blockOE job ph rr ad tm ix size zs = takesE pl size by rw [blockOE, if_neg (by simp [HS.out]), HNZ.out, HEE.out, if_pos rfl, HP.out])
    have H2 := Lib.hid (show blockOR job ph rr ad tm ix size zs = takesR pl size by rw [blockOR, if_neg (by simp [HS.out]), HNZ.out, HEE.out, if_pos rfl, HP.out])
    have hpi := os.ints hsm.out
    go_wp2_with fail
    refine (rtakes_any w4.heap.size sA sm sc pl size w4 hpi (Nat.le_refl _) hcap).mono ?_
    rintro e wz ⟨A', n', c', rfl, ho, hw⟩
    have dz := dz.trans (hw.mono dz.size)
    have ho := ho.less (Nat.le_trans bz.size c0_4.size)
    go_wp2_with fail
    exact bodyPost_ret (results_tmp2 rfl _ _ _) rfl ⟨A', n', c', by rw [H1.out]; rfl, by rw [H2.out]; exact ho, dz⟩
  · have H1 := Lib.hid (show blockOE job ph rr ad tm ix size zs = E by rw [blockOE, if_neg (by simp [HS.out]), HNZ.out, HEE.out, if_neg h0])
    have H2 := Lib.hid (show blockOR job ph rr ad tm ix size zs = [] by rw [blockOR, if_neg (by simp [HS.out]), HNZ.out, HEE.out, if_neg h0])
    go_wp2_with fail
    exact bodyPost_ret (results_tmp2 rfl _ _ _) rfl ⟨none, 0, 0, by rw [H1.out]; rfl, by rw [H2.out]; exact OwnR.nil _ _, dz⟩
set_option maxRecDepth 100000 in
set_option maxHeartbeats 16000000 in
theorem ropens_any (job : List Int) (hk : job.length = 32) (hkb : ∀ z ∈ job, (Lit.int .u8 z).wf = true) (ph rr ad tm ix : Int) (ht : (Lit.int .u64 tm).wf = true) (B : Nat) (A : Option Addr) (n c : Nat) (zs : List Int) (size : Int) (w : World) (h : Ints w .u8 B A n zs) (hB : B ≤ w.heap.size) (hf : Flat A c) (hc : n ≤ c) (hn : n ≤ 65552) :
    Calls Tryz.prog 9 #[.agg (arr .u8 job), .agg #[.int .i64 ph, .int .i64 rr, .int .i64 ad, .int .u64 tm, .int .i64 ix], .int .i64 size, .slice A n c] w fun e w' => ∃ A' n' c', e = .returned (.tuple #[.slice A' n' c', .int .i64 (blockOE job ph rr ad tm ix size zs)]) ∧ OwnR w' w.heap.size (.slice A' n' c') (blockOR job ph rr ad tm ix size zs) ∧ Below w.heap.size w w' := by
  by_cases hs : mayS size = true
  · exact ropens_may job hk hkb ph rr ad tm ix ht B A n c zs size w h hB hf hc hn hs
  · have hs' : mayS size = false := by simpa using hs
    have H1 := Lib.hid (show blockOE job ph rr ad tm ix size zs = 1 from if_pos hs')
    have H2 := Lib.hid (show blockOR job ph rr ad tm ix size zs = [] from if_pos hs')
    rw [H1.out, H2.out]
    go_enter Tryz.func9, Tryz.ntmps9
    go_wp2_with (first
      | (refine wpList_box_Row (w := w) rfl 22 _ rfl .u8 job rfl hkb ?_; intro u1 ra ga za)
      | (refine wpList_box_blk (w := u1) rfl 25 _ rfl #[.int .i64 ph, .int .i64 rr, .int .i64 ad, .int .u64 tm, .int .i64 ix] rfl ?_; intro u2 qp gb zb; have ra := ra.grown gb (by simp)))
    have bz : Below w.heap.size w u2 := ((Below.refl _ w).grown ga (Nat.le_refl _) (by simp)).grown gb ga.size (by simp)
    clear ga gb za zb
    refine (may_any size u2).mono ?_
    rintro e u3 ⟨rfl, rfl⟩
    rw [hs']
    go_wp2_with fail
    exact bodyPost_ret (results_tmp2 rfl _ _ _) rfl ⟨none, 0, 0, rfl, OwnR.nil _ _, bz⟩
def sealB (job : List Int) (ph rr ad tm ix : Int) (rs : List R) (size : Int) : List Int := if mayS size = true ∧ (rs.length : Int) ≤ size then blockS job ph rr ad tm ix rs size.toNat else []
end Go.Proofs.YtjelacblnjbfgaaGreatDoor.Rs
namespace Go.Proofs.YtjelacblnjbfgaaGreatDoor.Rs
open Go.RowKit Go.Shelf Go.Proofs.YtjelacblnjbfgaaGreatDoor Mem
attribute [local irreducible] wpList wpListIn Calls
end Go.Proofs.YtjelacblnjbfgaaGreatDoor.Rs
namespace Go.Proofs.YtjelacblnjbfgaaGreatDoor.Held
open Go.RowKit
section
variable {P : Program} {ops : Array Oper} {Q Q' : Exit → Act → World → Prop} {n : Nat} {r : Option Nat} {rest : List Oper} {o : Oper} {a : Act} {w : World}
theorem opIn_wide (ho : ∀ c, o.op ≠ .defer c) (hp : ∀ ch a w, ¬ Q' (.panic ch) a w) (hl : ¬ LetsOut Q') {K : Act → World → Prop} (h : o.wp P a w K Q') : o.wpIn (wideR r) n P a w K Q := by
  refine ⟨fun _ _ => trivial, ?_⟩
  rw [Oper.semAt_plain (wideR r) _ _ ho]
  unfold Oper.wp at h
  generalize (execOp a.eval o).run P w = x at h
  cases x with
  | ok y w' =>
    cases y with
    | value v => exact h
    | skip => exact h
    | «defer» d => exact h
    | enter f args =>
      refine ⟨fun hd => absurd (show false = true from hd) (by simp), (calls_wideR (r := r) h).mono fun e w'' he => ?_⟩
      cases e
      · exact he
      · exact (hp _ _ _ he).elim
      · exact (hl he).elim
    | row row args => exact ⟨fun hd => absurd (show false = true from hd) (by simp), rows_wideR h⟩
    | _ => exact h.elim
  | halt y w' =>
    cases y <;> first | exact h.elim | exact (hp _ _ _ h).elim
theorem wpListIn_one {F : Fence} (hF : F = wideR r) (ho : ∀ c, o.op ≠ .defer c) (h : wpList P ops (fun e a' w' => e = .normal ∧ wpListIn F n P ops Q rest a' w') [o] a w) : wpListIn F n P ops Q (o :: rest) a w := by
  subst hF
  unfold wpList at h
  unfold wpListIn
  split
  · rename_i hw
    simp only [hw, if_true] at h
    rcases h with h | ⟨_, a', w', hx⟩
    · refine Oper.wpIn_mono (fun a' w' h' => ?_) (opIn_wide ho (fun ch a w hx => by cases hx.1) (fun ⟨a, w, hx⟩ => by cases hx.1) h)
      exact h'.2
    · cases hx.1
  · rename_i hw
    simp only [hw] at h
    exact ⟨fun _ _ => trivial, h.2⟩
end
end Go.Proofs.YtjelacblnjbfgaaGreatDoor.Held
namespace Go.Proofs.YtjelacblnjbfgaaGreatDoor.Rs
open Go.RowKit Go.Shelf Go.Proofs.YtjelacblnjbfgaaGreatDoor Mem Held Go.Proofs.YtjelacblnjbfgaaGreatDoor.Range Rc
attribute [local go_sem] Oper.semAt_some
attribute [local irreducible] wpList wpListIn Calls
theorem bmay_any (size : Int) (w : World) : Calls Tryz.prog 24 #[.int .i64 size] w fun e w' => e = .returned (.bool (mayS size)) ∧ w = w' := by
  by_cases h1 : 1 ≤ size
  · by_cases h8 : size ≤ 8
    · have hm : mayS size = true := by simp [mayS, h1, h8]
      have HM := Lib.hid hm
      clear hm
      go_enter Tryz.func24, Tryz.ntmps24
      go_wp2_with fail
      go_ret
      exact ⟨Mem.ret_bool HM.out.symm, rfl⟩
    · have hm : mayS size = false := by simp [mayS, h8]
      have HM := Lib.hid hm
      clear hm
      go_enter Tryz.func24, Tryz.ntmps24
      go_wp2_with fail
      go_ret
      exact ⟨Mem.ret_bool HM.out.symm, rfl⟩
  · have hm : mayS size = false := by simp [mayS, h1]
    have HM := Lib.hid hm
    clear hm
    go_enter Tryz.func24, Tryz.ntmps24
    go_wp2_with fail
    go_ret
    exact ⟨Mem.ret_bool HM.out.symm, rfl⟩
theorem bplain_any (size : Int) (w : World) (h0 : 0 ≤ size) (h8 : size ≤ 8) : Calls Tryz.prog 18 #[.int .i64 size] w fun e w' => e = .returned (.int .i64 (32 * size)) ∧ w = w' := by
  go_enter Tryz.func18, Tryz.ntmps18
  go_wp2_with fail
  go_ret
  exact ⟨rfl, rfl⟩
set_option maxRecDepth 100000 in
set_option maxHeartbeats 4000000 in
theorem size_any (size : Int) (w : World) : Calls Tryz.prog 12 #[.int .i64 size] w fun e w' => e = .returned (.int .i64 (sizeV size)) ∧ Below w.heap.size w w' := by
  go_enter Tryz.func12, Tryz.ntmps12
  go_wp2_with fail
  all_goals
    refine (bplain_any _ w (by omega) (by omega)).mono ?_
    rintro e w1 ⟨rfl, rfl⟩
    go_wp2_with fail
    go_ret
    refine ⟨?_, Below.refl _ _⟩
    refine congrArg (fun z => Ending.returned (Value.int .i64 z)) ?_
    unfold sizeV
    omega
theorem filled_any (A : Option Addr) (n c : Nat) (size : Int) (w : World) :
    Calls Tryz.prog 32 #[.slice A n c, .int .i64 size] w fun e w' => ∃ bl bs : Nat, e = .returned (.func (.func 49) #[] #[.pointer (some ⟨bl, 0, none⟩), .pointer (some ⟨bs, 0, none⟩)]) ∧ Blk w' bl 26 #[.slice A n c] ∧ Blk w' bs 3 #[.int .i64 size] ∧ w.heap.size ≤ bl ∧ w.heap.size ≤ bs ∧ Below w.heap.size w w' := by
  go_enter Tryz.func32, Tryz.ntmps32
  go_wp2_with (first
    | (refine Held.wpList_box_cell (w := w) rfl 26 _ rfl (.slice A n c) rfl rfl ?_; intro u1 q1 g1 z1)
    | (refine Held.wpList_box_cell (w := u1) rfl 3 _ rfl (.int .i64 size) rfl rfl ?_; intro u2 q2 g2 z2))
  go_ret
  exact ⟨_, _, rfl, Held.keep_cells q1 g2 (by simp), q2, Nat.le_refl _, g1.size, ((Below.refl _ w).grown g1 (Nat.le_refl _) (by simp)).grown g2 g1.size (by simp)⟩
def EncR (x : R) (B0 : Nat) (W : World) (args : Array Value) : Prop := args = #[.agg #[.bool x.d, .int .i64 x.k, .int .i64 x.v, .int .i64 x.s]]
theorem Recs.only {S : Nat → Prop} {w w' : World} {B n : Nat} {A : Option Addr} {rs : List R} (h : Recs w B A n rs) (ho : Only S w w') (hS : ∀ b, b < B → ¬ S b) : Recs w' B A n rs :=
  ⟨h.1, h.2.1, fun hn => by
    obtain ⟨b, off, e, hb, hc⟩ := h.2.2 hn
    exact ⟨b, off, e, hb, fun j v hv => ho.cell (p := ⟨b, off + j, none⟩) (hS b hb) (hc j v hv)⟩⟩
theorem take_snoc (xs : List R) {k : Nat} (hk : k < xs.length) : xs.take k ++ [xs.getD k R0] = xs.take (k + 1) := by
  rw [List.take_succ_eq_append_getElem hk, List.getD_eq_getElem?_getD, List.getElem?_eq_getElem hk]
  rfl
end Go.Proofs.YtjelacblnjbfgaaGreatDoor.Rs
