/-
  What a name showed as there had been so many Puts (package store's behind), by its contract.
  Package store's Roll, by its contract.
  A list of strings handed out one by one by the library's slices.Values, by its contract.
-/
import Derived.Test.YtbippmbcgkicaaaB7
import Derived.Test.YtbippmbcgkicaaaB5
set_option linter.unusedVariables false
namespace Go.Proofs.Ytbippmbcgkicaaa.Sto
open Go.RowKit Go.Shelf Go.Proofs.Ytbippmbcgkicaaa Mem Held Sl Go.Proofs.Ytbippmbcgkicaaa.Range
attribute [local irreducible] wpList wpListIn Calls
open Go.Sort (grow)
def cntC (j : Int) (us : List Vw) : Nat := us.countP fun v => decide (v.t ≤ j)
def bhC (j : Int) (us : List Vw) : Vw := if cntC j us = 0 then Vw.none else us.getD (cntC j us - 1) Vw.none
theorem bhC_p (j : Int) (us : List Vw) : (bhC j us).p = bhP j (us.map Vw.p) := by
  have e : (us.map Vw.p).countP (fun v => decide (v.t ≤ j)) = cntC j us := by
    rw [List.countP_map]
    rfl
  unfold bhC bhP
  rw [e]
  by_cases h : cntC j us = 0
  · rw [if_pos h, if_pos h]
    rfl
  · rw [if_neg h, if_neg h, List.getD_eq_getElem?_getD, List.getD_eq_getElem?_getD, List.getElem?_map]
    cases us[cntC j us - 1]? <;> rfl
theorem cnt_range (j : Int) (us : List Vw) : (List.range us.length).countP (fun i => !decide (j < (us.getD i Vw.none).t)) = cntC j us := by
  have h : us = (List.range us.length).map (fun i => us.getD i Vw.none) := by
    apply List.ext_getElem
    · simp
    · intro i h1 h2
      simp only [List.getElem_map, List.getElem_range]
      rw [List.getD_eq_getElem?_getD, List.getElem?_eq_getElem h1]
      rfl
  unfold cntC
  conv => rhs; rw [h, List.countP_map]
  refine List.countP_congr fun i _ => ?_
  simp only [Function.comp, Bool.not_eq_true', decide_eq_false_iff_not, decide_eq_true_eq]
  omega
set_option maxRecDepth 100000 in
set_option maxHeartbeats 4000000 in
theorem behind1_any (bh bw h g n c i : Nat) (j ti : Int) (u : World) (hbh : u.cell? ⟨bh, 0, none⟩ = some (.pointer (some ⟨h, 0, none⟩))) (hbw : u.cell? ⟨bw, 0, none⟩ = some (.int .i64 j)) (hh : u.cell? ⟨h, 1, none⟩ = some (.slice (some ⟨g, 0, none⟩) n c)) (hti : u.cell? ⟨g, 0 + i * 3, none⟩ = some (.int .i64 ti)) (hin : i < n) :
    Calls Try.prog 56 #[.int .i64 (i : Int), .pointer (some ⟨bh, 0, none⟩), .pointer (some ⟨bw, 0, none⟩)] u fun e w' => e = .returned (.bool (decide (j < ti))) ∧ w' = u.drew := by
  obtain ⟨p, hp⟩ : ∃ p, decide (j < ti) = p := ⟨_, rfl⟩
  rw [hp]
  have HP := Lib.hid hp
  clear hp
  go_enter Try.func56, Try.ntmps56
  go_wp2_with fail
  refine wp_region_held (S := fun W => Help.Still u W) (by kernel_rfl) ?_
  change wpAnyH _ _ _ _ _ _ _ _ u.drew
  have T0 : Help.Still u u.drew := ⟨1, rfl⟩
  refine Held.tk (v := .pointer (some ⟨h, 0, none⟩)) 0 (some 5) rfl (Held.y_load rfl rfl (by kernel_rfl) (fun W hW => (hW.cell _).trans hbh)) T0 ?_
  simp only [Act.put, Z1, Z2, Z3]
  refine Held.tk (v := .pointer (some ⟨h, 0, none⟩)) 1 (some 6) rfl (Sl.y_nil rfl rfl) T0 ?_
  simp only [Act.put, Z1, Z2, Z3]
  refine Held.tk (v := .pointer (some ⟨h, 1, none⟩)) 2 (some 7) rfl (Held.y_field (k := 1) (s := 0) rfl rfl Try.underlying71 rfl (by kernel_rfl) rfl) T0 ?_
  simp only [Act.put, Z1, Z2, Z3]
  refine Held.tk (v := .slice (some ⟨g, 0, none⟩) n c) 3 (some 8) rfl (Held.y_load rfl rfl (by kernel_rfl) (fun W hW => (hW.cell _).trans hh)) T0 ?_
  simp only [Act.put, Z1, Z2, Z3]
  refine Held.tk (v := .int .i64 (i : Int)) 4 (some 9) rfl (Held.y_move rfl rfl) T0 ?_
  simp only [Act.put, Z1, Z2, Z3]
  refine Held.tk (v := .pointer (some ⟨g, 0 + i * 3, none⟩)) 5 (some 10) rfl (Held.y_addr rfl rfl rfl (fun W => Rs.run_addr_of (P := Try.prog) 69 73 g 0 n c i 3 .i64 Try.underlying69 (by kernel_rfl) (hin) W)) T0 ?_
  simp only [Act.put, Z1, Z2, Z3]
  refine Held.tk (v := .pointer (some ⟨g, 0 + i * 3, none⟩)) 6 (some 11) rfl (Held.y_field (k := 0) (s := 0) rfl rfl Try.underlying73 rfl (by kernel_rfl) rfl) T0 ?_
  simp only [Act.put, Z1, Z2, Z3]
  refine Held.tk (v := .int .i64 ti) 7 (some 12) rfl (Held.y_load rfl rfl (by kernel_rfl) (fun W hW => (hW.cell _).trans hti)) T0 ?_
  simp only [Act.put, Z1, Z2, Z3]
  refine Held.tk (v := .int .i64 j) 8 (some 13) rfl (Held.y_load rfl rfl (by kernel_rfl) (fun W hW => (hW.cell _).trans hbw)) T0 ?_
  simp only [Act.put, Z1, Z2, Z3]
  refine Held.tk (v := .bool p) 9 (some 14) rfl (Held.y_gtr rfl rfl rfl (HP.out)) T0 ?_
  simp only [Act.put, Z1, Z2, Z3]
  refine Held.tk (v := .bool p) 10 (some 4) rfl (Held.y_assign rfl rfl) T0 ?_
  simp only [Act.put, Z1, Z2, Z3]
  refine wpAnyH_done (by kernel_rfl) ?_ _
  go_wp2_with fail
  go_ret
  exact ⟨rfl, rfl⟩
theorem grow_nil (w : World) : grow w #[] = w := by simp [grow]
set_option maxRecDepth 100000 in
set_option maxHeartbeats 8000000 in
theorem behind_any {ow : Nat → Nat} {w : World} {h : Nat} {vs : List Bs} {us : List Vw} (H : HistAt ow w h vs us) (hup : (us.map (·.t)).Pairwise (· < ·)) (hl : us.length ≤ 1000000) (j : Int) :
    Calls Try.prog 39 #[.pointer (some ⟨h, 0, none⟩), .int .i64 j] w fun r w' => r = .returned (.agg #[.int .i64 (bhC j us).t, .bool (bhC j us).is, .slice (bhC j us).x.A (bhC j us).x.n (bhC j us).x.c]) ∧ Below w.heap.size w w' := by
  obtain ⟨_, vv, ww, hb, _, hw, _⟩ := H
  have hlt := hb.lt
  obtain ⟨A, n, c, rfl, hn, hnc, _⟩ := hw.form2
  have hcw := hb.cell (i := 1) rfl
  have hmono : ∀ a b, a ≤ b → b < n → decide (j < (us.getD a Vw.none).t) = true → decide (j < (us.getD b Vw.none).t) = true := fun a b hab hbn ha => by
    have hn' := hn.out
    rcases Nat.eq_or_lt_of_le hab with rfl | hlt'
    · exact ha
    · have h1 := List.pairwise_iff_getElem.1 hup a b (by simp; omega) (by simp; omega) hlt'
      simp only [List.getElem_map] at h1
      simp only [decide_eq_true_eq, List.getD_eq_getElem?_getD, List.getElem?_eq_getElem (show a < us.length by omega), List.getElem?_eq_getElem (show b < us.length by omega), Option.getD_some] at ha ⊢
      omega
  have HS := Lib.hid (fun (W : World) (bh bw : Nat) (hB : Below w.heap.size w W) (q1 : Blk W bh 65 #[.pointer (some ⟨h, 0, none⟩)]) (q2 : Blk W bw 3 #[.int .i64 j]) =>
    Try.sort_Search 56 #[.pointer (some ⟨bh, 0, none⟩), .pointer (some ⟨bw, 0, none⟩)] n (fun i => decide (j < (us.getD i Vw.none).t)) W (enters_of Try.func56 (by kernel_rfl) rfl) (by have := hn.out; omega)
      (fun m os i hi => by
        have hg := below_grown_sl W.heap.size W m os (Nat.le_refl _)
        have hB2 := hB.trans (hg.mono hB.size)
        have hn' := hn.out
        obtain ⟨g, rfl, _⟩ := own_some hw (by omega)
        have hgl : g < w.heap.size := (OwnL.lt hw g rfl).2
        have hr := own_range hw (i := i) (by omega)
        have hcell : w.cell? ⟨g, 0 + i * 3, none⟩ = some (.int .i64 (us.getD i kV.d).t) := hr 0 _ rfl
        refine (behind1_any bh bw h g n c i j _ _ ((q1.below hg q1.lt).cell rfl) ((q2.below hg q2.lt).cell rfl) ((hb.below hB2 hlt).cell (i := 1) rfl) ((hB2.cell hgl).trans hcell) hi).mono ?_
        rintro e w' ⟨rfl, rfl⟩
        exact ⟨rfl, 1, #[], by rw [grow_nil]; rfl⟩) hmono)
  have hcnt := cnt_range j us
  rw [hn.out] at hcnt
  rw [hcnt] at HS
  have hcn : cntC j us ≤ us.length := List.countP_le_length
  by_cases h0 : cntC j us = 0
  · have hv : bhC j us = Vw.none := by unfold bhC; rw [if_pos h0]
    rw [hv]
    rw [h0] at HS
    clear hcnt hcn h0 hv hmono hup hw hl
    go_enter Try.func39, Try.ntmps39
    go_wp2_with (first
      | (refine wpList_box_cell (w := w) rfl 65 _ rfl (.pointer (some ⟨h, 0, none⟩)) rfl rfl ?_; intro u1 q1 g1 z1)
      | (refine wpList_box_cell (w := u1) rfl 3 _ rfl (.int .i64 j) rfl rfl ?_; intro u2 q2 g2 z2; have q1 := Blk.grown q1 g2 (by simp))
      | (refine wpList_alloc_blk (w := u2) rfl 73 rfl #[.int .i64 0, .bool false, .slice none 0 0] (by kernel_rfl) ?_; intro u3 qu3 gu3 zu3; have q1 := Blk.grown q1 gu3 (by simp); have q2 := Blk.grown q2 gu3 (by simp); have bo : Below w.heap.size w u3 := (((Below.refl _ w).grown g1 (Nat.le_refl _) (by simp)).grown g2 g1.size (by simp)).grown gu3 (Nat.le_trans g1.size g2.size) (by simp); have hc1 := Blk.cell q1 (i := 0) rfl; have hc2 := Blk.cell q2 (i := 0) rfl; have hch := (hb.below bo hlt).cell (i := 1) rfl))
    refine (HS.out u3 _ _ bo q1 q2).mono ?_
    rintro r4 w4 ⟨rfl, q, os, rfl⟩
    have b4 := below_grown_sl u3.heap.size u3 q os (Nat.le_refl _)
    have qu4 := qu3.below b4 qu3.lt
    generalize grow (u3.drewN q) os = w4 at b4 qu4 ⊢
    go_wp2_with (first
      | (refine wpList_store_blk (w := w4) rfl 73 _ _ rfl (u2.heap.size) 3 rfl 73 _ #[.int .i64 0, .bool false, .slice none 0 0] rfl qu4 (by kernel_rfl) rfl rfl (by kernel_rfl) ?_; intro w5 qw5 gw5 zw5)
      | (refine wpList_build_blk rfl 73 #[] rfl #[.int .i64 0, .bool false, .slice none 0 0] (by kernel_rfl) ?_))
    refine bodyPost_ret (results_blk rfl _ w5 u2.heap.size 3 73 _ rfl qw5 _ Try.underlying73 rfl (by kernel_rfl) rfl) rfl ?_
    exact ⟨rfl, (bo.trans (b4.mono bo.size)).grown gw5 (Nat.le_trans bo.size b4.size) (fun r e => by cases e; exact Nat.le_trans g1.size g2.size)⟩
  · obtain ⟨m, hm⟩ : ∃ m, cntC j us = m + 1 := ⟨cntC j us - 1, by omega⟩
    have hml : m < us.length := by omega
    have hv : bhC j us = us.getD m Vw.none := by unfold bhC; rw [if_neg h0, hm, Nat.add_sub_cancel]
    obtain ⟨v, hvv⟩ : ∃ v, us.getD m Vw.none = v := ⟨_, rfl⟩
    rw [hv, hvv]
    rw [hm] at HS
    obtain ⟨g, rfl, hn2⟩ := own_some hw (by omega)
    have hgl : g < w.heap.size := (OwnL.lt hw g rfl).2
    have hr := own_range hw hml
    have hr : w.rangeAt g (0 + m * 3) v.cells := by rw [← hvv]; exact hr
    have HR := Lib.hid hr
    have hmn : m < n := by have := hn.out; omega
    have HM := Lib.hid (show IntKind.i64.wrap (((m + 1 : Nat) : Int) - 1) = (m : Int) by simp [IntKind.wrap_i64]; omega)
    have HE := Lib.hid (show decide (((m + 1 : Nat) : Int) = 0) = false by simp; omega)
    generalize hmm : ((m + 1 : Nat) : Int) = m1 at HM HE HS
    clear hcnt hcn h0 hv hmono hup hw hl hm hml hvv hr hn hmm hn2
    go_enter Try.func39, Try.ntmps39
    go_wp2_with (first
      | (refine wpList_box_cell (w := w) rfl 65 _ rfl (.pointer (some ⟨h, 0, none⟩)) rfl rfl ?_; intro u1 q1 g1 z1)
      | (refine wpList_box_cell (w := u1) rfl 3 _ rfl (.int .i64 j) rfl rfl ?_; intro u2 q2 g2 z2; have q1 := Blk.grown q1 g2 (by simp))
      | (refine wpList_alloc_blk (w := u2) rfl 73 rfl #[.int .i64 0, .bool false, .slice none 0 0] (by kernel_rfl) ?_; intro u3 qu3 gu3 zu3; have q1 := Blk.grown q1 gu3 (by simp); have q2 := Blk.grown q2 gu3 (by simp); have bo : Below w.heap.size w u3 := (((Below.refl _ w).grown g1 (Nat.le_refl _) (by simp)).grown g2 g1.size (by simp)).grown gu3 (Nat.le_trans g1.size g2.size) (by simp); have hc1 := Blk.cell q1 (i := 0) rfl; have hc2 := Blk.cell q2 (i := 0) rfl; have hch := (hb.below bo hlt).cell (i := 1) rfl))
    refine (HS.out u3 _ _ bo q1 q2).mono ?_
    rintro r4 w4 ⟨rfl, q, os, rfl⟩
    have b4 := below_grown_sl u3.heap.size u3 q os (Nat.le_refl _)
    have qu4 := qu3.below b4 qu3.lt
    have hc4 := (q1.below b4 q1.lt).cell (i := 0) rfl
    have hch4 := (hb.below (bo.trans (b4.mono bo.size)) hlt).cell (i := 1) rfl
    have HR4 := Lib.hid (range_below HR.out (bo.trans (b4.mono bo.size)) hgl)
    clear hc1 hc2 hch
    generalize grow (u3.drewN q) os = w4 at b4 qu4 hc4 hch4 HR4 ⊢
    go_wp2_with (first
      | (refine Held.wpList_run (w := w4) rfl (v := .bool false) (Held.y_eqI (S := fun _ => True) rfl rfl rfl HE.out _ trivial) ?_)
      | (refine Held.wpList_run (w := w4) rfl (v := .int .i64 (m : Int)) (y_subI (S := fun _ => True) _ _ rfl rfl rfl HM.out _ trivial) ?_)
      | (refine Held.wpList_run (w := w4) rfl (v := .pointer (some ⟨g, 0 + m * 3, none⟩)) (Held.y_addr (S := fun _ => True) rfl rfl rfl (Rs.run_addr_of (P := Try.prog) 69 73 g 0 n c m 3 .i64 Try.underlying69 (by kernel_rfl) hmn) _ trivial) ?_)
      | (refine Held.wpList_run (w := w4) rfl (v := .agg #[.int .i64 v.t, .bool v.is, .slice v.x.A v.x.n v.x.c]) (Rs.y_load_range (S := fun W => W = w4) (cs := v.cells) rfl rfl Try.underlying73 rfl (by kernel_rfl) rfl (fun W hW => hW ▸ HR4.out) _ rfl) ?_)
      | (refine wpList_store_blk (w := w4) rfl 73 _ _ rfl (u2.heap.size) 3 rfl 73 _ #[.int .i64 v.t, .bool v.is, .slice v.x.A v.x.n v.x.c] rfl qu4 (by kernel_rfl) rfl rfl (by kernel_rfl) ?_; intro w5 qw5 gw5 zw5))
    refine bodyPost_ret (results_blk rfl _ w5 u2.heap.size 3 73 _ rfl qw5 _ Try.underlying73 rfl (by kernel_rfl) rfl) rfl ?_
    exact ⟨rfl, (bo.trans (b4.mono bo.size)).grown gw5 (Nat.le_trans bo.size b4.size) (fun r e => by cases e; exact Nat.le_trans g1.size g2.size)⟩
end Go.Proofs.Ytbippmbcgkicaaa.Sto
namespace Go.Proofs.Ytbippmbcgkicaaa.Sto
open Go.RowKit Go.Shelf Go.Proofs.Ytbippmbcgkicaaa Mem Held Sl Go.Proofs.Ytbippmbcgkicaaa.Range
attribute [local go_sem] Oper.semAt_some
attribute [local irreducible] wpList wpListIn Calls
theorem showC_len (t : Int) (v : Vw) (us : List Vw) : (showC t v us).length ≤ us.length + 1 := by
  unfold showC
  split
  · rw [List.length_set]; omega
  · simp
theorem show_at {ow : Nat → Nat} {w : World} {s N : Nat} {W : Int} {es : List Ent} (H : Sto ow w s W N es) {i : Nat} {e : Ent} (hi : es[i]? = some e) {t : Int} {v : Vw} (ht : (Lit.int .i64 t).wf = true) (hv : Rd (fun r => ow r = 1) w v.x) (hN : N ≤ 1000000) (hn : e.us.length < N) :
    Calls Try.prog 33 #[.pointer (some ⟨e.h, 0, none⟩), .int .i64 t, .agg #[.int .i64 v.t, .bool v.is, .slice v.x.A v.x.n v.x.c]] w fun r w' => r = .returned (.tuple #[]) ∧ ∃ ow', Sto ow' w' s W N (es.set i { e with us := showC t v e.us }) ∧ Chg ow ow' w w' ∧ KeepsP (fun r => ow r ≠ e.h + 2 ∧ r < w.heap.size) w w' := by
  have hm := List.mem_of_getElem? hi
  have hf := H.few e hm
  refine (show_hist (H.hist e hm) ht (by omega)).mono ?_
  rintro r w' ⟨rfl, ow', h1, h2, h3, h4⟩
  refine ⟨rfl, ow', ?_⟩
  have hl : ∀ r, ow' r ≠ 0 → r < w'.heap.size := fun r hr => by
    rcases h4 r hr with h | h
    · exact Nat.lt_of_lt_of_le (H.low r h) h2.size
    · exact h.2
  have hk1 : KeepsP (fun r => ow r = 1) w w' := ⟨h2.os, h2.tape, h2.output, h2.size, fun r o hr ho => h2.block r o ⟨by have h0 : ow r = 1 := hr; omega, (Array.getElem?_eq_some_iff.1 ho).1⟩ ho⟩
  have hb := (H.bytes e hm).keep hk1 (fun r h _ => h3 r h)
  have hv' := (Rd.less (S' := fun r => ow' r = 1 ∧ ow r = 1) hv (fun b hb hlt => ⟨(h3 b hlt).trans hb, hb⟩)).keep (hk1.less fun r hr => hr.2) |>.less (S' := fun r => ow' r = 1) fun b hb _ => hb.1
  have hb' : Bytes ow' w' e.vs (showC t v e.us) := by
    refine ⟨hb.vs, fun u hu => ?_⟩
    unfold showC at hu
    split at hu
    · rcases List.mem_or_eq_of_mem_set hu with hu | rfl
      · exact hb.us u hu
      · exact ⟨hv', ht⟩
    · rcases List.mem_append.1 hu with hu | hu
      · exact hb.us u hu
      · rw [List.mem_singleton.1 hu]
        exact ⟨hv', ht⟩
  have := showC_len t v e.us
  obtain ⟨a1, a2⟩ := Sto.upd H hi h2 h3 hl h1 hb' ⟨hf.1, by omega⟩
  exact ⟨a1, a2, h2⟩
def rolE (t j : Int) (rem : List (Nm × Option Nat)) (es : List Ent) : List Ent := es.map fun e => if (e.k, some e.h) ∈ rem then e else { e with us := showC t (bhC j e.us) e.us }
theorem rolE_all (t j : Int) (es : List Ent) : rolE t j (es.map fun e => (e.k, some e.h)) es = es := by
  unfold rolE
  refine (List.map_congr_left fun e he => ?_).trans (List.map_id _)
  rw [if_pos (List.mem_map.2 ⟨e, he, rfl⟩)]
  rfl
theorem rolE_nil (t j : Int) (es : List Ent) : absL (rolE t j [] es) = rollP t j (absL es) := by
  unfold rolE absL rollP
  rw [List.map_map, List.map_map]
  refine List.map_congr_left fun e _ => ?_
  simp [Ent.p, shwF, showC_abs, bhC_p]
theorem rolE_at {t j : Int} {rem : List (Nm × Option Nat)} {es : List Ent} {i : Nat} {e : Ent} (hi : es[i]? = some e) (hm : (e.k, some e.h) ∈ rem) : (rolE t j rem es)[i]? = some e := by
  unfold rolE
  rw [List.getElem?_map, hi]
  show some (if _ then _ else _) = _
  rw [if_pos hm]
theorem rolE_step {t j : Int} {rem : List (Nm × Option Nat)} {es : List Ent} {i : Nat} {e : Ent} (hd : (es.map (·.k)).Nodup) (hi : es[i]? = some e) : rolE t j (rem.filter fun p => !decide (p.1 = e.k)) es = (rolE t j rem es).set i { e with us := showC t (bhC j e.us) e.us } := by
  have hli := (List.getElem?_eq_some_iff.1 hi).1
  apply List.ext_getElem?
  intro m
  rw [List.getElem?_set]
  unfold rolE
  rw [List.length_map, List.getElem?_map, List.getElem?_map]
  by_cases hmi : i = m
  · subst hmi
    rw [if_pos rfl, if_pos hli, hi]
    show some (if _ then _ else _) = _
    rw [if_neg (by simp)]
  · rw [if_neg hmi]
    cases hm : es[m]? with
    | none => rfl
    | some x =>
      have hlm := (List.getElem?_eq_some_iff.1 hm).1
      have hne : x.k ≠ e.k := fun h0 => by
        have h1 := List.pairwise_iff_getElem.1 hd
        have e1 : (es.map (·.k))[i]'(by simpa using hli) = e.k := by
          have := (List.getElem?_eq_some_iff.1 hi).2
          simp [this]
        have e2 : (es.map (·.k))[m]'(by simpa using hlm) = x.k := by
          have := (List.getElem?_eq_some_iff.1 hm).2
          simp [this]
        rcases Nat.lt_or_gt_of_ne hmi with h | h
        · exact h1 i m (by simpa using hli) (by simpa using hlm) h (by rw [e1, e2, h0])
        · exact h1 m i (by simpa using hlm) (by simpa using hli) h (by rw [e1, e2, h0])
      simp [hne]
theorem bhC_mem (j : Int) (us : List Vw) : bhC j us ∈ us ∨ bhC j us = Vw.none := by
  unfold bhC
  split
  · exact .inr rfl
  · have : cntC j us ≤ us.length := List.countP_le_length
    rw [List.getD_eq_getElem?_getD, List.getElem?_eq_getElem (by omega)]
    exact .inl (List.getElem_mem _)
def RolI (ow : Nat → Nat) (w0 : World) (s N : Nat) (W j : Int) (es : List Ent) (pv : Nat → Prop) (rem : List (Nm × Option Nat)) (X : World) : Prop :=
  (∀ y ∈ rem, y ∈ es.map fun e => (e.k, some e.h)) ∧ ∃ ow', Sto ow' X s W (N + 1) (rolE W j rem es) ∧ (∀ r, r < w0.heap.size → ow' r = ow r) ∧ (∀ r, ow' r ≠ 0 → ¬ pv r) ∧ (∀ r, pv r → w0.heap.size ≤ r ∧ r < X.heap.size) ∧ KeepsP (fun r => r < w0.heap.size ∧ ow r ≤ 1) w0 X
theorem stay_rol (ow : Nat → Nat) (w0 : World) (s N : Nat) (W j : Int) (es : List Ent) : Stay (RolI ow w0 s N W j es) where
  new pv pv' rem X X' h hg h1 h2 := by
    obtain ⟨a0, ow', a1, a2, a3, a4, a5⟩ := h
    refine ⟨a0, ow', a1.keep (KeepsP.of_grown hg (fun r e => by cases e)), a2, fun r hr hp => ?_, fun r hr => ?_, a5.trans (KeepsP.of_grown hg (fun r e => by cases e))⟩
    · rcases h2 r hp with h | h
      · exact a3 r hr h
      · have := a1.low r hr; omega
    · have := hg.size
      have h5 := a5.size
      rcases h2 r hr with h | h
      · have := a4 r h; omega
      · omega
  put pv rem X X' r h hr hg := by
    obtain ⟨a0, ow', a1, a2, a3, a4, a5⟩ := h
    exact ⟨a0, ow', a1.keep (KeepsP.of_grown hg (fun r' e h3 => by injection e with e; subst e; exact a3 _ h3 hr)), a2, a3, fun r' hr' => ⟨(a4 r' hr').1, Nat.lt_of_lt_of_le (a4 r' hr').2 hg.size⟩, a5.trans (KeepsP.of_grown hg (fun r' e h3 => by injection e with e; subst e; have := a4 _ hr; omega))⟩
section
variable {ow : Nat → Nat} {w : World} {s N : Nat} {W : Int} {es : List Ent}
set_option maxRecDepth 100000 in
set_option maxHeartbeats 8000000 in
theorem roll_no (H : Sto ow w s W N es) {n : Int} (hn : n < 0 ∨ W < n) : Calls Try.prog 15 #[.pointer (some ⟨s, 0, none⟩), .int .i64 n] w fun r w' => r = .returned (.bool false) ∧ Below w.heap.size w w' := by
  have HWC := Lib.hid (fun (w' : World) (h : Below w.heap.size w w') => H.writesCell h)
  by_cases h0 : n < 0
  · have hd : decide (n < 0) = true := decide_eq_true h0
    clear hn
    go_enter Try.func15, Try.ntmps15
    go_wp2_with (first
      | (refine wpList_box_cell (w := w) rfl 23 _ rfl (.pointer (some ⟨s, 0, none⟩)) rfl rfl ?_; intro u1 q1 g1 z1)
      | (refine wpList_box_cell (w := u1) rfl 3 _ rfl (.int .i64 n) rfl rfl ?_; intro u2 q2 g2 z2; have q1 := Held.keep_cells q1 g2 (by simp)))
    have b2 : Below w.heap.size w u2 := ((Below.refl _ w).grown g1 (Nat.le_refl _) (by simp)).grown g2 g1.size (by simp)
    have s1 : w.heap.size < u1.heap.size := by have := z1.out; omega
    have s2 : u1.heap.size < u2.heap.size := by have := z2.out; omega
    have c1 := cell_of_one q1
    have c2 := cell_of_one q2
    have cw := HWC.out u2 b2
    clear g1 z1 g2 z2
    go_quiet (fail)
    go_wp2_with fail
    go_ret
    exact ⟨rfl, below_drewN b2 _⟩
  · have hd : decide (n < 0) = false := decide_eq_false h0
    have hd2 : decide (W < n) = true := decide_eq_true (by omega)
    clear hn
    go_enter Try.func15, Try.ntmps15
    go_wp2_with (first
      | (refine wpList_box_cell (w := w) rfl 23 _ rfl (.pointer (some ⟨s, 0, none⟩)) rfl rfl ?_; intro u1 q1 g1 z1)
      | (refine wpList_box_cell (w := u1) rfl 3 _ rfl (.int .i64 n) rfl rfl ?_; intro u2 q2 g2 z2; have q1 := Held.keep_cells q1 g2 (by simp)))
    have b2 : Below w.heap.size w u2 := ((Below.refl _ w).grown g1 (Nat.le_refl _) (by simp)).grown g2 g1.size (by simp)
    have s1 : w.heap.size < u1.heap.size := by have := z1.out; omega
    have s2 : u1.heap.size < u2.heap.size := by have := z2.out; omega
    have c1 := cell_of_one q1
    have c2 := cell_of_one q2
    have cw := HWC.out u2 b2
    clear g1 z1 g2 z2
    go_quiet (fail)
    go_wp2_with fail
    go_ret
    exact ⟨rfl, below_drewN b2 _⟩
set_option maxRecDepth 100000 in
set_option maxHeartbeats 8000000 in
theorem roll_zero (H : Sto ow w s W N es) : Calls Try.prog 15 #[.pointer (some ⟨s, 0, none⟩), .int .i64 0] w fun r w' => r = .returned (.bool true) ∧ Below w.heap.size w w' := by
  have HWC := Lib.hid (fun (w' : World) (h : Below w.heap.size w w') => H.writesCell h)
  have h9 := H.wf.1
  have hd2 : decide (W < 0) = false := decide_eq_false (by omega)
  clear h9
  go_enter Try.func15, Try.ntmps15
  go_wp2_with (first
    | (refine wpList_box_cell (w := w) rfl 23 _ rfl (.pointer (some ⟨s, 0, none⟩)) rfl rfl ?_; intro u1 q1 g1 z1)
    | (refine wpList_box_cell (w := u1) rfl 3 _ rfl (.int .i64 0) rfl rfl ?_; intro u2 q2 g2 z2; have q1 := Held.keep_cells q1 g2 (by simp)))
  have b2 : Below w.heap.size w u2 := ((Below.refl _ w).grown g1 (Nat.le_refl _) (by simp)).grown g2 g1.size (by simp)
  have s1 : w.heap.size < u1.heap.size := by have := z1.out; omega
  have s2 : u1.heap.size < u2.heap.size := by have := z2.out; omega
  have c1 := cell_of_one q1
  have c2 := cell_of_one q2
  have cw := HWC.out u2 b2
  clear g1 z1 g2 z2
  go_quiet (fail)
  go_wp2_with fail
  go_ret
  exact ⟨rfl, below_drewN b2 _⟩
set_option maxRecDepth 100000 in
set_option maxHeartbeats 16000000 in
theorem roll_yes (H : SI ow w s W N es) {n : Int} (h0 : 0 < n) (hn : n ≤ W) (hN : N ≤ 900000) : Calls Try.prog 15 #[.pointer (some ⟨s, 0, none⟩), .int .i64 n] w fun r w' => r = .returned (.bool true) ∧ ∃ ow' es', Sto ow' w' s W (N + 1) es' ∧ Chg ow ow' w w' ∧ absL es' = rollP W (W - n) (absL es) := by
  have HWC := Lib.hid (fun (w' : World) (h : Below w.heap.size w w') => H.sto.writesCell h)
  have hd : decide (n < 0) = false := decide_eq_false (by omega)
  have hd2 : decide (W < n) = false := decide_eq_false (by omega)
  have hd3 : (n == 0) = false := by simp; omega
  have hwf := H.sto.wf
  obtain ⟨j, hj⟩ : ∃ j, W - n = j := ⟨_, rfl⟩
  have HJ := Lib.hid (show IntKind.i64.wrap (W - n) = j by rw [hj, IntKind.wrap_i64]; omega)
  rw [hj]
  have HWF := Lib.hid (H.sto.wfW (by omega))
  have HLS := Lib.hid H.sto.lt
  clear hj hn h0 hwf
  refine (callsIn_wide (n := 9)).1 ?_
  refine callsIn_of_wp_marks Try.func15 rfl trivial ?_ rfl
  simp only [Try.ntmps15, List.size_toArray, List.length_cons, List.length_nil, Nat.reduceAdd, Nat.reduceSub, Array.replicate_succ, Array.replicate_zero, List.push_toArray, List.append_toArray, List.nil_append, List.cons_append]
  refine wpIn_wide.2 ?_
  go_wp2_with (first
    | (refine wpList_box_cell (w := w) rfl 23 _ rfl (.pointer (some ⟨s, 0, none⟩)) rfl rfl ?_; intro u1 q1 g1 z1)
    | (refine wpList_box_cell (w := u1) rfl 3 _ rfl (.int .i64 n) rfl rfl ?_; intro u2 q2 g2 z2; have q1 := Held.keep_cells q1 g2 (by simp)))
  have b2 : Below w.heap.size w u2 := ((Below.refl _ w).grown g1 (Nat.le_refl _) (by simp)).grown g2 g1.size (by simp)
  have s1 : w.heap.size < u1.heap.size := by have := z1.out; omega
  have s2 : u1.heap.size < u2.heap.size := by have := z2.out; omega
  have c1 := cell_of_one q1
  have c2 := cell_of_one q2
  have cw := HWC.out u2 b2
  clear g1 z1 g2 z2
  go_quiet (fail)
  go_wp2_with fail
  have b3 : Below w.heap.size w (u2.drewN nq) := below_drewN b2 _
  have z3 : (u2.drewN nq).heap = u2.heap := rfl
  obtain ⟨u3, hu3⟩ : ∃ u3, u2.drewN nq = u3 := ⟨_, rfl⟩
  rw [hu3] at b3 z3 ⊢
  rw [← z3] at q1 q2 s2
  clear hu3 z3 c1 c2 cw b2 HWC hd hd2 hd3
  refine (all_any (H.sto.below b3)).mono ?_
  rintro r4 w4 ⟨bx, Nd, rfl, hit, hNd, b4⟩
  have q1 := (b4.block _ (show w.heap.size < u3.heap.size by omega)).trans q1
  have q2 := (b4.block _ (show u1.heap.size < u3.heap.size by omega)).trans q2
  have b04 : Below w.heap.size w w4 := b3.trans (b4.mono b3.size)
  have H4 : SI ow w4 s W N es := H.below b04
  have hz : ∀ r, w.heap.size ≤ r → ow r = 0 := fun r hr => H.sto.free hr
  have s4 := b4.size
  have h3 := b3.size
  have HX0 := Lib.hid (And.intro q1 (And.intro q2 (And.intro hz (And.intro hNd H4))))
  clear b3 b4 q1 q2 hz hNd H
  go_wp2_with fail
  refine (wpIn_wide (n := 9)).1 ?_
  refine wpIn_rangeFunc_t rfl (by omega) (gf := 64) (lb := #[.pointer (some ⟨bx, 0, none⟩)]) rfl trivial (enters_of Try.func64 (by kernel_rfl) rfl) (hit _) (Below.refl _ _) (fun _ => rfl) (fun r h => (HX0.out.2.2.2.1 r h).2)
    (RolI ow w4 s N W j es) (fun _ _ _ _ => False) (stay_rol _ _ _ _ _ _ _) (fun _ => stay_no) ⟨fun y h => h, ow, by rw [rolE_all]; exact H4.sto.more (by omega), fun _ _ => rfl, fun _ _ h => h, fun _ h => h.elim, KeepsP.refl _ _⟩
    (fun pv rem x rem' a' X => RolI ow w4 s N W j es pv rem X ∧ a' = { tmps := #[.pointer (some ⟨s, 0, none⟩), .int .i64 n, .pointer (some ⟨w.heap.size, 0, none⟩), .pointer (some ⟨u1.heap.size, 0, none⟩), .bool false, undef, ptrV x.2, .pointer (some ⟨s, 0, none⟩), .bool false, .bool false, .int .i64 n, .bool false, .bool false, .bool false, .int .i64 n, .pointer (some ⟨s, 0, none⟩), .pointer (some ⟨s, 0, none⟩), .pointer (some ⟨s, 1, none⟩), .int .i64 W, .bool false, .bool false, .int .i64 n, .bool false, .pointer (some ⟨s, 0, none⟩), .func (.func 64) #[] #[.pointer (some ⟨bx, 0, none⟩)], encStr x.1, ptrV x.2, undef, undef, undef, undef, undef, undef, undef, undef, undef, undef, undef, undef, undef, undef], defers := [] }) ?hIb ?assign ?body ?done ?stop
  case hIb =>
    rintro pv k x k' a' X X' r ⟨h, h2⟩ hr hg
    exact ⟨(stay_rol _ _ _ _ _ _ _).put _ _ _ _ _ h hr hg, h2⟩
  case assign =>
    rintro l pv k x k' X C hl hI hx hC
    simp only [encE, List.zip_toArray, List.zip_cons_cons, List.zip_nil_right, List.foldl_toArray, List.foldl_cons, List.foldl_nil, List.setIfInBounds_toArray, List.set_cons_zero, List.set_cons_succ]
    gi_wp2_with fail
    exact hC _ _ (KeepsP.refl _ _) ⟨hI, rfl⟩
  case body =>
    rintro l pv rem x rem' a' X hl hlr ⟨⟨hsub, owX, HX, hlab, hpv, hlow, kX⟩, rfl⟩ ⟨hx, rfl⟩
    obtain ⟨e, he, hxe⟩ := List.mem_map.1 (hsub x hx)
    obtain rfl := hxe
    obtain ⟨q1, q2, hz, hNd, H4⟩ := HX0.out
    obtain ⟨i, hi⟩ := List.getElem?_of_mem he
    have hXi := rolE_at (t := W) (j := j) hi hx
    have hXm := List.mem_of_getElem? hXi
    have hf := H4.sto.few e he
    have hup : (e.us.map (·.t)).Pairwise (· < ·) := by
      have := (H4.good.2 e.p (abs_mem he)).up
      simp only [Ent.p, List.map_map] at this
      exact this
    obtain ⟨v, hv⟩ : ∃ v, bhC j e.us = v := ⟨_, rfl⟩
    have hbv : Rd (fun r => owX r = 1) X v.x := by
      rcases bhC_mem j e.us with h | h
      · rw [hv] at h; exact ((HX.bytes e hXm).us v h).1
      · rw [hv] at h; rw [h]; exact Rd.nil _ _
    have HBH := Lib.hid (fun (V : World) (hV : Below X.heap.size X V) => behind_any ((HX.below hV).hist e hXm) hup (by omega) j)
    rw [hv] at HBH
    have HSH := Lib.hid (fun (V : World) (hV : Below X.heap.size X V) => show_at (HX.below hV) hXi (t := W) (v := v) HWF.out (hbv.keep (KeepsP.of_below hV)) (by omega) (by omega))
    have HNX := Lib.hid (rolE_step (t := W) (j := j) (rem := rem) H4.sto.keys hi)
    rw [hv] at HNX
    have hne := HX.ne hXm
    have sX := kX.size
    have hlb : w.heap.size < X.heap.size := by omega
    have hln : u1.heap.size < X.heap.size := by omega
    have hls : s < X.heap.size := HX.lt
    have hcb := cell_of_one (kX.block _ _ ⟨show w.heap.size < w4.heap.size by omega, by rw [hz _ (Nat.le_refl _)]; omega⟩ q1)
    have hcn := cell_of_one (kX.block _ _ ⟨show u1.heap.size < w4.heap.size by omega, by rw [hz _ (by omega)]; omega⟩ q2)
    have hcs := HX.writesCell (Below.refl X.heap.size X)
    clear q1 q2 hi hXi hXm hf hup hbv HX he HX0 hv
    gi_wp2_with fail
    refine Held.wpIn_region_barR (r := some l) (s := 13) (T := fun V => Below X.heap.size X V) rfl (by kernel_rfl) (by kernel_rfl) (by intro a w h; exact h) ?_
    change wpAnyB _ _ _ _ _ _ _ _ _ X.drew
    have T0 : Below X.heap.size X X.drew := (Below.refl _ _).drew
    refine Held.takeB (v := .pointer (some ⟨e.h, 0, none⟩)) 0 (some 27) [13] rfl rfl (by kernel_rfl) (by kernel_rfl) (by kernel_rfl) (by kernel_rfl) (fun _ _ _ h => h) rfl (Held.y_move rfl rfl) T0 ?_
    simp only [Act.put, Z1, Z2, Z3]
    refine Held.takeB (v := .pointer (some ⟨s, 0, none⟩)) 1 (some 28) [2, 3, 4, 13] rfl rfl (by kernel_rfl) (by kernel_rfl) (by kernel_rfl) (by kernel_rfl) (fun _ _ _ h => h) rfl (Held.y_load rfl rfl (by kernel_rfl) (fun V hV => (hV.cell (p := ⟨w.heap.size, 0, none⟩) hlb).trans hcb)) T0 ?_
    simp only [Act.put, Z1, Z2, Z3]
    refine Held.takeB (v := .pointer (some ⟨s, 0, none⟩)) 2 (some 29) [3, 4, 13] rfl rfl (by kernel_rfl) (by kernel_rfl) (by kernel_rfl) (by kernel_rfl) (fun _ _ _ h => h) rfl (Sl.y_nil rfl rfl) T0 ?_
    simp only [Act.put, Z1, Z2, Z3]
    refine Held.takeB (v := .pointer (some ⟨s, 1, none⟩)) 3 (some 30) [4, 13] rfl rfl (by kernel_rfl) (by kernel_rfl) (by kernel_rfl) (by kernel_rfl) (fun _ _ _ h => h) rfl (Held.y_field (k := 1) (s := 0) rfl rfl Try.underlying64 rfl (by kernel_rfl) rfl) T0 ?_
    simp only [Act.put, Z1, Z2, Z3]
    refine Held.takeB (v := .int .i64 W) 4 (some 31) [13] rfl rfl (by kernel_rfl) (by kernel_rfl) (by kernel_rfl) (by kernel_rfl) (fun _ _ _ h => h) rfl (Held.y_load rfl rfl (by kernel_rfl) (fun V hV => (hV.cell (p := ⟨s, 1, none⟩) hls).trans hcs)) T0 ?_
    simp only [Act.put, Z1, Z2, Z3]
    refine Held.takeB (v := .pointer (some ⟨e.h, 0, none⟩)) 5 (some 32) [12, 13] rfl rfl (by kernel_rfl) (by kernel_rfl) (by kernel_rfl) (by kernel_rfl) (fun _ _ _ h => h) rfl (Held.y_move rfl rfl) T0 ?_
    simp only [Act.put, Z1, Z2, Z3]
    refine Held.takeB (v := .pointer (some ⟨s, 0, none⟩)) 6 (some 33) [7, 8, 9, 11, 12, 13] rfl rfl (by kernel_rfl) (by kernel_rfl) (by kernel_rfl) (by kernel_rfl) (fun _ _ _ h => h) rfl (Held.y_load rfl rfl (by kernel_rfl) (fun V hV => (hV.cell (p := ⟨w.heap.size, 0, none⟩) hlb).trans hcb)) T0 ?_
    simp only [Act.put, Z1, Z2, Z3]
    refine Held.takeB (v := .pointer (some ⟨s, 0, none⟩)) 7 (some 34) [8, 9, 11, 12, 13] rfl rfl (by kernel_rfl) (by kernel_rfl) (by kernel_rfl) (by kernel_rfl) (fun _ _ _ h => h) rfl (Sl.y_nil rfl rfl) T0 ?_
    simp only [Act.put, Z1, Z2, Z3]
    refine Held.takeB (v := .pointer (some ⟨s, 1, none⟩)) 8 (some 35) [9, 11, 12, 13] rfl rfl (by kernel_rfl) (by kernel_rfl) (by kernel_rfl) (by kernel_rfl) (fun _ _ _ h => h) rfl (Held.y_field (k := 1) (s := 0) rfl rfl Try.underlying64 rfl (by kernel_rfl) rfl) T0 ?_
    simp only [Act.put, Z1, Z2, Z3]
    refine Held.takeB (v := .int .i64 W) 9 (some 36) [11, 12, 13] rfl rfl (by kernel_rfl) (by kernel_rfl) (by kernel_rfl) (by kernel_rfl) (fun _ _ _ h => h) rfl (Held.y_load rfl rfl (by kernel_rfl) (fun V hV => (hV.cell (p := ⟨s, 1, none⟩) hls).trans hcs)) T0 ?_
    simp only [Act.put, Z1, Z2, Z3]
    refine Held.takeB (v := .int .i64 n) 10 (some 37) [11, 12, 13] rfl rfl (by kernel_rfl) (by kernel_rfl) (by kernel_rfl) (by kernel_rfl) (fun _ _ _ h => h) rfl (Held.y_load rfl rfl (by kernel_rfl) (fun V hV => (hV.cell (p := ⟨u1.heap.size, 0, none⟩) hln).trans hcn)) T0 ?_
    simp only [Act.put, Z1, Z2, Z3]
    refine Held.takeB (v := .int .i64 j) 11 (some 38) [12, 13] rfl rfl (by kernel_rfl) (by kernel_rfl) (by kernel_rfl) (by kernel_rfl) (fun _ _ _ h => h) rfl (y_subI _ _ rfl rfl rfl HJ.out) T0 ?_
    simp only [Act.put, Z1, Z2, Z3]
    refine Held.oneB 12 (by kernel_rfl) ?_
    refine Held.op_call 12 (some 39) 39 #[.pointer (some ⟨e.h, 0, none⟩), .int .i64 j] rfl rfl rfl rfl (enters_of Try.func39 (by kernel_rfl) rfl) (by simp [Act.eval])
      (HBH.out X.drew T0) ?_
    rintro r8 w8 ⟨rfl, b8⟩
    have T8 : Below X.heap.size X w8 := T0.trans (b8.mono T0.size)
    refine ⟨_, rfl, fun _ => T8, ?_⟩
    simp only [Act.put, Z1, Z2, Z3]
    refine Held.oneB 13 (by kernel_rfl) ?_
    refine Held.op_call 13 (some 40) 33 #[.pointer (some ⟨e.h, 0, none⟩), .int .i64 W, .agg #[.int .i64 v.t, .bool v.is, .slice v.x.A v.x.n v.x.c]] rfl rfl rfl rfl (enters_of Try.func33 (by kernel_rfl) rfl) (by simp [Act.eval])
      (HSH.out w8 T8) ?_
    rintro r9 w9 ⟨rfl, ow9, H9, C9, K9⟩
    refine ⟨_, rfl, fun h => (by cases h.symm.trans (show _ = true by kernel_rfl)), ?_⟩
    simp only [Act.put, Z1, Z2, Z3]
    refine Held.doneB (by kernel_rfl) ?_ _
    gi_wp2_with fail
    have KP : KeepsP (fun r => owX r ≠ e.h + 2 ∧ r < X.heap.size) X w9 := (KeepsP.of_below T8).trans (K9.less fun r hr => ⟨hr.1, Nat.lt_of_lt_of_le hr.2 T8.size⟩)
    have s8 := T8.size
    refine ⟨⟨KP.os, KP.tape, KP.output, KP.size, fun r o hr ho => KP.block r o ⟨?_, (Array.getElem?_eq_some_iff.1 ho).1⟩ ho⟩, fun y hy => hsub y ((List.mem_filter.1 hy).1), ow9, by rw [HNX.out]; exact H9, fun r hr => (C9.same r (by omega)).trans (hlab r hr), fun r hr hp => ?_, fun r hr => ⟨(hlow r hr).1, Nat.lt_of_lt_of_le (hlow r hr).2 KP.size⟩, kX.trans (KP.less fun r hr => ⟨by rw [hlab r hr.1]; have := hr.2; omega, by have := hr.1; omega⟩)⟩
    · rcases hr with hr | hr
      · obtain ⟨h1, h2⟩ := hNd r hr
        rw [hlab r h2]
        rcases h1 with h1 | h1
        · rw [hz r (by omega)]; omega
        · omega
      · intro h1
        exact hpv r (by omega) hr
    · have := (hlow r hp).2
      rw [C9.same r (by omega)] at hr
      exact hpv r hr hp
  case done =>
    rintro D pv rem X hk ⟨hsub, owX, HX, hlab, hpv, hlow, kX⟩ hD hDl
    obtain rfl : rem = [] := hk
    go_wp2_with fail
    refine ⟨by simp, .inl ⟨_, _, rfl, run_takeDeferred hDl, ?_⟩⟩
    have hg := grownBy_putObj' X D (.deferred none)
    have hDl4 := (hlow D hD).1
    have k1 : KeepsP (fun r => r < w4.heap.size ∧ ow r ≤ 1) w (X.putObj D (.deferred none)) := (KeepsP.of_below b04).trans (kX.trans (KeepsP.of_grown hg (fun r e h => by injection e with e; subst e; have := h.1; omega)))
    have s5 := b04.size
    exact ⟨_, results_tmp rfl _ _ _, rfl, owX, _, HX.keep (KeepsP.of_grown hg (fun r e h => by injection e with e; subst e; exact hpv _ h hD)), ⟨⟨k1.os, k1.tape, k1.output, k1.size, fun r o hr ho => k1.block r o ⟨by have := (Array.getElem?_eq_some_iff.1 ho).1; omega, hr⟩ ho⟩, fun r hr => hlab r (by omega)⟩, rolE_nil W j es⟩
  case stop =>
    intro D c pv k X h
    exact h.elim
theorem roll_si (H : SI ow w s W N es) {n : Int} (hN : N ≤ 900000) : Calls Try.prog 15 #[.pointer (some ⟨s, 0, none⟩), .int .i64 n] w fun r w' => r = .returned (.bool (rollsP W n (absL es)).1) ∧ ∃ ow' es', SI ow' w' s W (N + 3) es' ∧ Chg ow ow' w w' ∧ absL es' = (rollsP W n (absL es)).2 := by
  unfold rollsP
  by_cases h : n < 0 ∨ W < n
  · rw [if_pos h]
    refine (roll_no H.sto h).mono ?_
    rintro r w' ⟨rfl, hb⟩
    exact ⟨rfl, ow, es, (H.below hb).more (by omega), Chg.below hb ow, rfl⟩
  · rw [if_neg h]
    by_cases h0 : n = 0
    · subst h0
      rw [if_pos rfl]
      refine (roll_zero H.sto).mono ?_
      rintro r w' ⟨rfl, hb⟩
      exact ⟨rfl, ow, es, (H.below hb).more (by omega), Chg.below hb ow, rfl⟩
    · rw [if_neg h0]
      refine (roll_yes H (by omega) (by omega) hN).mono ?_
      rintro r w' ⟨rfl, ow', es', h1, h2, h3⟩
      exact ⟨rfl, ow', es', ⟨h1.more (by omega), by rw [h3]; exact good_roll H.good⟩, h2, h3⟩
end
end Go.Proofs.Ytbippmbcgkicaaa.Sto
namespace Go.Proofs.Ytbippmbcgkicaaa.Sto
open Go.RowKit Go.Shelf Go.Proofs.Ytbippmbcgkicaaa Mem Held Sl Go.Proofs.Ytbippmbcgkicaaa.Range
attribute [local go_sem] Oper.semAt_some
attribute [local irreducible] wpList wpListIn Calls
def kS : St Nm := ⟨1, fun x => [encStr x], fun x => x.length ≤ maxLen, [], fun _ => rfl, fun x u hu => by rw [List.mem_singleton.1 hu]; rfl, by omega⟩
theorem info_kS : (Try.prog.info? 9).map (fun i => (i.zero, i.size, i.bytes)) = some (some (encStr []), kS.s, 16) := by kernel_rfl
def nxK (ss : List Nm) (k : Nat) (x : Nm) (k' : Nat) : Prop := ss[k]? = some x ∧ k' = k + 1
def finK (ss : List Nm) (k : Nat) : Prop := ss.length ≤ k
theorem kp_own {S : Nat → Prop} {w w' : World} {t : TypeId} {base : Nat} {v : Value} {xs : List Nm} (h : OwnL kS t w base v xs) (hk : KeepsP S w w') (hs : ∀ b, v.ownBlock = some b → S b) : OwnL kS t w' base v xs := by
  refine ⟨h.1, ?_⟩
  rcases h.2 with h2 | ⟨g, cap, cur, rfl, hbg, hg, r⟩
  · exact .inl h2
  · exact .inr ⟨g, cap, cur, rfl, hbg, hk.block g _ (hs g rfl) hg, r⟩
set_option maxRecDepth 100000 in
set_option maxHeartbeats 8000000 in
theorem vals_t (N bx n c base : Nat) (A : Option Addr) (ss : List Nm) (w : World) (q : Blk w bx 46 #[.slice A n c]) (hA : OwnL kS 9 w base (.slice A n c) ss) (hn : n ≤ 1048576) :
    SeqT Fence.wide N Try.prog 63 #[.pointer (some ⟨bx, 0, none⟩)] (fun r => r = bx ∨ (Value.slice A n c).ownBlock = some r) (fun x : Nm => #[encStr x]) (nxK ss) (finK ss) 0 w := by
  intro l J Jx W hW hJ hJx hY h00
  have q := q.after hW
  have hA := OwnL.below hA hW
  have hln : ss.length = n := by obtain ⟨A', c', e, _⟩ := OwnL.form hA; injection e with _ e2 _; exact e2.symm
  have hc := q.cell (i := 0) rfl
  have HY := Lib.hid hY
  have HLN := Lib.hid hln
  clear hY hW hln
  refine callsIn_of_wp Try.func63 rfl trivial ?_ rfl
  simp only [Try.ntmps63, List.size_toArray, List.length_cons, List.length_nil, Nat.reduceAdd, Nat.reduceSub, Array.replicate_succ, Array.replicate_zero, List.push_toArray, List.append_toArray, List.nil_append, List.cons_append]
  gi_wp2_with fail
  gi_loopw [7] (fun i wr => ∃ (k : Nat) (pv : Nat → Prop), k ≤ n ∧ i = .int .i64 k ∧ J pv k wr ∧ KeepsP (fun r => r = bx ∨ (Value.slice A n c).ownBlock = some r) W wr) (fun i _ => n - (intOf i).toNat)
  case atStart => exact ⟨0, _, Nat.zero_le _, rfl, h00, KeepsP.refl _ _⟩
  case round =>
    clear h00
    obtain ⟨k, pv, hk, rfl, Jk, kp⟩ := hrel
    by_cases hlt : k < n
    · have hX := kp_own hA kp (fun b e => .inr e)
      have hx : ss[k]? = some (ss.getD k kS.d) := by
        rw [List.getD_eq_getElem?_getD, List.getElem?_eq_getElem (by rw [HLN.out]; exact hlt)]; rfl
      obtain ⟨g, rfl, hn2⟩ := own_some hX (by rw [HLN.out]; omega)
      have hcell : wr.cell? ⟨g, 0 + k * 1, none⟩ = some (encStr (ss.getD k kS.d)) := own_range hX (i := k) (by rw [HLN.out]; exact hlt) 0 _ rfl
      obtain ⟨fn, tmps, assign, body, hy, hR⟩ := HY.out pv k _ (k + 1) wr Jk ⟨hx, rfl⟩
      generalize ss.getD k kS.d = x at hcell hy hR hx
      have hltI : (k : Int) < (n : Int) := by omega
      have HK := Lib.hid (show IntKind.i64.wrap ((k : Int) + 1) = ((k + 1 : Nat) : Int) by rw [IntKind.wrap_i64]; omega)
      have hy : (Instr.yield l #[encStr x]).run Try.prog wr = .ok (.round l fn tmps assign body) wr := hy
      clear hX hx Jk hn2
      gi_wp2_with (first
        | (refine Held.wpListIn_one (r := none) rfl (by intro c e; cases e) ?_; refine Held.wpList_run (w := wr) rfl (v := .pointer (some ⟨g, 0 + k * 1, none⟩)) (Held.y_addr (S := fun _ => True) rfl rfl rfl (Rs.run_addr_of (P := Try.prog) 46 9 g 0 n c k 1 .i64 Try.underlying46 (by kernel_rfl) hlt) _ trivial) ?_; refine wpList_nil ⟨rfl, ?_⟩; simp only [Act.put, Z1, Z2, Z3])
        | (refine Held.wpListIn_one (r := none) rfl (by intro c e; cases e) ?_; refine Held.wpList_run (w := wr) rfl (v := encStr x) (Held.y_load (S := fun W => W = wr) rfl rfl (by kernel_rfl) (fun W hW => hW ▸ hcell) _ rfl) ?_; refine wpList_nil ⟨rfl, ?_⟩; simp only [Act.put, Z1, Z2, Z3]))
      refine ⟨fun h => (by cases h), ?_⟩
      refine hR.mono ?_
      rintro e w6 ⟨kp6, (⟨rfl, J6⟩ | ⟨rfl, x6⟩)⟩
      · have kp2 := kp.trans (kp6.less fun r hr => .inl hr)
        clear hR hy hcell kp kp6
        gi_wp2_with (refine Held.wpListIn_one (r := none) rfl (by intro c e; cases e) ?_; refine Held.wpList_run (w := w6) rfl (v := .int .i64 ((k + 1 : Nat) : Int)) (y_addI (S := fun _ => True) (k : Int) 1 rfl rfl rfl HK.out _ trivial) ?_; refine wpList_nil ⟨rfl, ?_⟩; simp only [Act.put, Z1, Z2, Z3])
        go_roundw
        case rel => exact ⟨k + 1, pv, by omega, rfl, J6, kp2⟩
        case measure => simp [intOf]; omega
      · gi_wp2_with fail
        exact bodyPost_ret (results_none rfl _ _ _) rfl ⟨⟨_, rfl⟩, .inr ⟨_, _, x6⟩⟩
    · obtain rfl : k = n := by omega
      gi_wp2_with fail
      go_end0
      exact ⟨⟨_, rfl⟩, .inl ⟨_, k, by show ss.length ≤ k; rw [HLN.out]; exact Nat.le_refl _, Jk⟩⟩
end Go.Proofs.Ytbippmbcgkicaaa.Sto
