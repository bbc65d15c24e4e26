/-
  What is known of a name (package store's now and show), by their contracts.
  Package store's known and Put, by their contracts.
-/
import Derived.Test.YtbippmbcgkicaaaB5
set_option linter.unusedVariables false
namespace Go.Proofs.Ytbippmbcgkicaaa.Sto
open Go.RowKit Go.Shelf Go.Proofs.Ytbippmbcgkicaaa Mem Held Sl Go.Proofs.Ytbippmbcgkicaaa.Range
attribute [local irreducible] wpList wpListIn Calls
set_option maxRecDepth 100000 in
set_option maxHeartbeats 4000000 in
theorem now_nil (w : World) : Calls Try.prog 36 #[.pointer none] w fun r w' => r = .returned (.agg #[.int .i64 0, .bool false, .slice none 0 0]) ∧ Below w.heap.size w w' := by
  go_enter Try.func36, Try.ntmps36
  go_wp2_with (first
    | (refine wpList_alloc_blk (w := w) rfl 73 rfl #[.int .i64 0, .bool false, .slice none 0 0] (by kernel_rfl) ?_; intro u1 qu1 gu1 zu1)
    | (refine wpList_store_blk (w := u1) rfl 73 _ _ rfl (w.heap.size) 3 rfl 73 _ #[.int .i64 0, .bool false, .slice none 0 0] rfl qu1 (by kernel_rfl) rfl rfl (by kernel_rfl) ?_; intro u2 qu2 gu2 zu2)
    | (refine wpList_build_blk rfl 73 #[] rfl #[.int .i64 0, .bool false, .slice none 0 0] (by kernel_rfl) ?_))
  refine bodyPost_ret (results_blk rfl _ u2 w.heap.size 3 73 _ rfl qu2 _ Try.underlying73 rfl (by kernel_rfl) rfl) rfl ?_
  exact ⟨rfl, ((Below.refl _ w).grown gu1 (Nat.le_refl _) (by simp)).grown gu2 gu1.size (by simp)⟩
set_option maxRecDepth 100000 in
set_option maxHeartbeats 4000000 in
theorem now_some {ow : Nat → Nat} {w : World} {h : Nat} {vs : List Bs} {us : List Vw} {v : Vw} {m : Nat} (H : HistAt ow w h vs us) (hm : us.length = m + 1) (hv : us[m]? = some v) (hb0 : m < 1048576) :
    Calls Try.prog 36 #[.pointer (some ⟨h, 0, none⟩)] w fun r w' => r = .returned (.agg #[.int .i64 v.t, .bool v.is, .slice v.x.A v.x.n v.x.c]) ∧ Below w.heap.size w w' := by
  obtain ⟨_, vv, ww, hb, _, hw, _⟩ := H
  have hlt := hb.lt
  obtain ⟨A, n, c, rfl, hn, hnc, _⟩ := hw.form2
  obtain ⟨g, rfl, hn2⟩ := own_some hw (by omega)
  have hd : us.getD m kV.d = v := by rw [List.getD_eq_getElem?_getD, hv]; rfl
  have HR := own_range hw (i := m) (by omega)
  rw [hd] at HR
  have HR := Lib.hid HR
  have hgl : g < w.heap.size := (OwnL.lt hw g rfl).2
  have hnm : n = m + 1 := by omega
  have HM := Lib.hid (show IntKind.i64.wrap ((n : Int) - 1) = (m : Int) by rw [hnm]; simp [IntKind.wrap_i64]; omega)
  clear hw hn hn2 hd hv hm
  go_enter Try.func36, Try.ntmps36
  go_wp2_with (refine wpList_alloc_blk (w := w) rfl 73 rfl #[.int .i64 0, .bool false, .slice none 0 0] (by kernel_rfl) ?_; intro u1 qu1 gu1 zu1)
  have bo1 : Below w.heap.size w u1 := (Below.refl _ w).grown gu1 (Nat.le_refl _) (by simp)
  refine wp_region_bar (T := fun W => Below w.heap.size w W) (s := 12) (by kernel_rfl) ?_
  change wpAnyB _ _ _ _ _ _ _ _ _ u1.drew
  have T0 : Below w.heap.size w u1.drew := bo1.drew
  refine Held.takeB (v := .pointer (some ⟨h, 0, none⟩)) 0 (some 6) [12] rfl rfl (by kernel_rfl) (by kernel_rfl) (by kernel_rfl) (by kernel_rfl) (fun _ _ _ h => h) rfl (Held.y_move rfl rfl) T0 ?_
  simp only [Act.put, Z1, Z2, Z3]
  refine Held.takeB (v := .pointer (some ⟨h, 0, none⟩)) 1 (some 7) [12] rfl rfl (by kernel_rfl) (by kernel_rfl) (by kernel_rfl) (by kernel_rfl) (fun _ _ _ h => h) rfl (Sl.y_nil rfl rfl) T0 ?_
  simp only [Act.put, Z1, Z2, Z3]
  refine Held.takeB (v := .pointer (some ⟨h, 1, none⟩)) 2 (some 8) [12] rfl rfl (by kernel_rfl) (by kernel_rfl) (by kernel_rfl) (by kernel_rfl) (fun _ _ _ h => h) rfl (Held.y_field (k := 1) (s := 0) rfl rfl Try.underlying71 rfl (by kernel_rfl) rfl) T0 ?_
  simp only [Act.put, Z1, Z2, Z3]
  refine Held.takeB (v := .slice (some ⟨g, 0, none⟩) n c) 3 (some 9) [12] rfl rfl (by kernel_rfl) (by kernel_rfl) (by kernel_rfl) (by kernel_rfl) (fun _ _ _ h => h) rfl (Held.y_load rfl rfl (by kernel_rfl) (fun W hW => (hb.below hW hlt).cell rfl)) T0 ?_
  simp only [Act.put, Z1, Z2, Z3]
  refine Held.takeB (v := .pointer (some ⟨h, 0, none⟩)) 4 (some 10) [12] rfl rfl (by kernel_rfl) (by kernel_rfl) (by kernel_rfl) (by kernel_rfl) (fun _ _ _ h => h) rfl (Held.y_move rfl rfl) T0 ?_
  simp only [Act.put, Z1, Z2, Z3]
  refine Held.takeB (v := .pointer (some ⟨h, 0, none⟩)) 5 (some 11) [12] rfl rfl (by kernel_rfl) (by kernel_rfl) (by kernel_rfl) (by kernel_rfl) (fun _ _ _ h => h) rfl (Sl.y_nil rfl rfl) T0 ?_
  simp only [Act.put, Z1, Z2, Z3]
  refine Held.takeB (v := .pointer (some ⟨h, 1, none⟩)) 6 (some 12) [12] rfl rfl (by kernel_rfl) (by kernel_rfl) (by kernel_rfl) (by kernel_rfl) (fun _ _ _ h => h) rfl (Held.y_field (k := 1) (s := 0) rfl rfl Try.underlying71 rfl (by kernel_rfl) rfl) T0 ?_
  simp only [Act.put, Z1, Z2, Z3]
  refine Held.takeB (v := .slice (some ⟨g, 0, none⟩) n c) 7 (some 13) [12] rfl rfl (by kernel_rfl) (by kernel_rfl) (by kernel_rfl) (by kernel_rfl) (fun _ _ _ h => h) rfl (Held.y_load rfl rfl (by kernel_rfl) (fun W hW => (hb.below hW hlt).cell rfl)) T0 ?_
  simp only [Act.put, Z1, Z2, Z3]
  refine Held.takeB (v := .int .i64 (n : Int)) 8 (some 14) [12] rfl rfl (by kernel_rfl) (by kernel_rfl) (by kernel_rfl) (by kernel_rfl) (fun _ _ _ h => h) rfl (Held.y_len rfl rfl Try.underlying69) T0 ?_
  simp only [Act.put, Z1, Z2, Z3]
  refine Held.takeB (v := .int .i64 ((m : Int))) 9 (some 15) [12] rfl rfl (by kernel_rfl) (by kernel_rfl) (by kernel_rfl) (by kernel_rfl) (fun _ _ _ h => h) rfl (Held.y_int rfl rfl rfl (Held.run_sub 3 .i64 (HM.out))) T0 ?_
  simp only [Act.put, Z1, Z2, Z3]
  refine Held.takeB (v := .pointer (some ⟨g, 0 + m * 3, none⟩)) 10 (some 16) [12] rfl rfl (by kernel_rfl) (by kernel_rfl) (by kernel_rfl) (by kernel_rfl) (fun _ _ _ h => h) rfl (Held.y_addr rfl rfl rfl (fun W => Rs.run_addr_of (P := Try.prog) 69 73 g 0 n c m 3 .i64 Try.underlying69 (by kernel_rfl) (by omega) W)) T0 ?_
  simp only [Act.put, Z1, Z2, Z3]
  refine Held.takeB (v := .agg #[.int .i64 v.t, .bool v.is, .slice v.x.A v.x.n v.x.c]) 11 (some 17) [12] rfl rfl (by kernel_rfl) (by kernel_rfl) (by kernel_rfl) (by kernel_rfl) (fun _ _ _ h => h) rfl (Rs.y_load_range (cs := v.cells) rfl rfl Try.underlying73 rfl (by kernel_rfl) rfl (fun W hW => range_below HR.out hW hgl)) T0 ?_
  simp only [Act.put, Z1, Z2, Z3]
  refine Held.oneB 12 (by kernel_rfl) ?_
  refine Held.op_store_blk 12 none 73 w.heap.size 3 73 _ #[.int .i64 v.t, .bool v.is, .slice v.x.A v.x.n v.x.c] rfl rfl rfl rfl rfl rfl (qu1.drew) (by kernel_rfl) rfl rfl (by kernel_rfl) ?_
  intro w2 q2 g2
  refine ⟨fun h => (by cases h.symm.trans (show _ = true by kernel_rfl)), ?_⟩
  simp only [Act.put]
  refine Held.doneB (by kernel_rfl) ?_ _
  go_wp2_with fail
  refine bodyPost_ret (results_blk rfl _ w2 w.heap.size 3 73 _ rfl q2 _ Try.underlying73 rfl (by kernel_rfl) rfl) rfl ?_
  exact ⟨rfl, bo1.drew.grown g2 bo1.size (by simp)⟩
def showC (t : Int) (v : Vw) (us : List Vw) : List Vw := if 0 < us.length ∧ (us.getD (us.length - 1) Vw.none).t = t then us.set (us.length - 1) ⟨t, v.is, v.x⟩ else us ++ [⟨t, v.is, v.x⟩]
theorem showC_abs (t : Int) (v : Vw) (us : List Vw) : (showC t v us).map Vw.p = showP t v.p (us.map Vw.p) := by
  have e : ((us.map Vw.p).getD ((us.map Vw.p).length - 1) Vp.none) = (us.getD (us.length - 1) Vw.none).p := by
    rw [List.length_map, List.getD_eq_getElem?_getD, List.getD_eq_getElem?_getD, List.getElem?_map]
    cases us[us.length - 1]? <;> rfl
  unfold showC showP
  rw [e, List.length_map]
  by_cases h : 0 < us.length ∧ (us.getD (us.length - 1) Vw.none).t = t
  · rw [if_pos h, if_pos (show 0 < us.length ∧ (us.getD (us.length - 1) Vw.none).p.t = t from h), List.map_set]
    rfl
  · rw [if_neg h, if_neg (show ¬(0 < us.length ∧ (us.getD (us.length - 1) Vw.none).p.t = t) from h), List.map_append]
    rfl
theorem own_cells {α : Type} {k : St α} {t : TypeId} {w : World} {b : Nat} {v : Value} {xs : List α} (h : OwnL k t w b v xs) : v.cells = #[v] := by
  obtain ⟨A, c, rfl, _⟩ := OwnL.form h
  rfl
theorem own_one {α : Type} {k : St α} {t : TypeId} {w : World} {b : Nat} {v : Value} {xs : List α} (h : OwnL k t w b v xs) : v.oneCell' = true := by
  obtain ⟨A, c, rfl, _⟩ := OwnL.form h
  rfl
theorem ite_id {c : Prop} [Decidable c] {a b : Nat} (h : b = a) : (if c then a else b) = a := by
  split
  · rfl
  · exact h
theorem hist_new {ow : Nat → Nat} {w w5 : World} {h z : Nat} {vs : List Bs} {us' : List Vw} {vv ww v4 : Value} (hoh : ow h = h + 2) (hlt : h < w.heap.size) (q5 : Blk w5 h 71 #[vv, v4]) (hv5 : OwnL kB 31 w5 0 vv vs) (o5 : OwnL kV 73 w5 0 v4 us')
    (ho1 : ∀ b, vv.ownBlock = some b → ow b = h + 2) (ho2 : ∀ b, ww.ownBlock = some b → ow b = h + 2) (n4 : v4.ownBlock = ww.ownBlock ∨ v4.ownBlock = some z) (hz : w.heap.size ≤ z) (h5 : w.heap.size ≤ w5.heap.size) :
    ∃ ow', HistAt ow' w5 h vs us' ∧ (∀ r, r < w.heap.size → ow' r = ow r) ∧ ∀ r, ow' r ≠ 0 → ow r ≠ 0 ∨ (w.heap.size ≤ r ∧ r < w5.heap.size) := by
  have key : ∀ r, v4.ownBlock = some r → ow r = h + 2 ∨ (w.heap.size ≤ r ∧ r < w5.heap.size) := fun r e => by
    rcases n4 with n4 | n4
    · exact .inl (ho2 r (n4 ▸ e))
    · rw [n4] at e
      injection e with e
      subst e
      exact .inr ⟨hz, (OwnL.lt o5 _ n4).2⟩
  refine ⟨fun r => if v4.ownBlock = some r then h + 2 else ow r, ⟨ite_id hoh, vv, v4, q5, hv5, o5, fun b e => ite_id (ho1 b e), fun b e => if_pos e⟩, fun r hr => ?_, fun r hr => ?_⟩
  · show (if _ then _ else _) = _
    split
    · rename_i e
      rcases key r e with h0 | h0
      · exact h0.symm
      · omega
    · rfl
  · by_cases e : v4.ownBlock = some r
    · rcases key r e with h0 | h0
      · exact .inl (by omega)
      · exact .inr h0
    · exact .inl (by simpa [e] using hr)
set_option maxRecDepth 100000 in
set_option maxHeartbeats 8000000 in
theorem show_hist {ow : Nat → Nat} {w : World} {h : Nat} {vs : List Bs} {us : List Vw} {t : Int} {v : Vw} (H : HistAt ow w h vs us) (ht : (Lit.int .i64 t).wf = true) (hl : us.length ≤ 1000000) :
    Calls Try.prog 33 #[.pointer (some ⟨h, 0, none⟩), .int .i64 t, .agg #[.int .i64 v.t, .bool v.is, .slice v.x.A v.x.n v.x.c]] w fun r w' => r = .returned (.tuple #[]) ∧ ∃ ow', HistAt ow' w' h vs (showC t v us) ∧ KeepsP (fun r => ow r ≠ h + 2 ∧ r < w.heap.size) w w' ∧ (∀ r, r < w.heap.size → ow' r = ow r) ∧ ∀ r, ow' r ≠ 0 → ow r ≠ 0 ∨ (w.heap.size ≤ r ∧ r < w'.heap.size) := by
  obtain ⟨hoh, vv, ww, hb, hv, hw, ho1, ho2⟩ := H
  have hlt := hb.lt
  obtain ⟨A, n, c, rfl, hn, hnc, _⟩ := hw.form2
  have wf1 : ∀ x ∈ [(⟨t, v.is, v.x⟩ : Vw)], kV.wf x := fun x hx => by rw [List.mem_singleton.1 hx]; exact ht
  have HL := Lib.hid hl
  clear hl
  refine Calls.mono (R := fun r w' => r = .returned (.tuple #[]) ∧ (∃ ow', HistAt ow' w' h vs (showC t v us) ∧ (∀ r, r < w.heap.size → ow' r = ow r) ∧ ∀ r, ow' r ≠ 0 → ow r ≠ 0 ∨ (w.heap.size ≤ r ∧ r < w'.heap.size)) ∧ KeepsP (fun r => ow r ≠ h + 2 ∧ r < w.heap.size) w w') ?_ (fun r w' ⟨a, ⟨ow', b, c, d⟩, e⟩ => ⟨a, ow', b, e, c, d⟩)
  rcases Nat.eq_zero_or_pos us.length with h0 | h0
  · have hn0 : n = 0 := by have := hn.out; omega
    subst hn0
    have HS := Lib.hid (show showC t v us = us ++ [⟨t, v.is, v.x⟩] by rw [showC, if_neg (by omega)])
    have HM := Lib.hid (show IntKind.i64.wrap (((0 : Nat) : Int) - 1) = -1 by rfl)
    have HG := Lib.hid (show decide ((0 : Int) ≤ -1) = false by rfl)
    clear hn h0
    go_enter Try.func33, Try.ntmps33
    go_wp2_with (first
      | (refine wpList_box_blk (w := w) rfl 73 _ rfl _ rfl ?_; intro u1 qu1 gu1 zu1)
      | (refine wpList_store_field (w := u1) rfl 3 _ _ rfl w.heap.size 0 rfl 73 _ (.int .i64 t) rfl qu1 (by simp) (by kernel_rfl) rfl rfl ?_; intro u2 qu2 gu2 zu2; have bo2 : Below w.heap.size w u2 := ((Below.refl _ w).grown gu1 (Nat.le_refl _) (by simp)).grown gu2 gu1.size (fun r e => by cases e; exact Nat.le_refl _); have qh2 := hb.below bo2 hlt; have hw2 := OwnL.below hw bo2; have hlt2 := qh2.lt; have hbl2 := qu2.lt; have hc2 := qh2.cell (i := 1) rfl)
      | (refine Held.wpList_run (w := u2) rfl (v := .int .i64 (-1)) (y_subI (S := fun _ => True) _ _ rfl rfl rfl HM.out _ trivial) ?_)
      | (refine Held.wpList_run (w := u2) rfl (v := .bool false) (y_geqI (S := fun _ => True) _ _ rfl rfl rfl HG.out _ trivial) ?_))
    refine wp_region_bar (T := fun W => Below u2.heap.size u2 W) (s := 7) (by kernel_rfl) ?_
    change wpAnyB _ _ _ _ _ _ _ _ _ u2.drew
    have T0 : Below u2.heap.size u2 u2.drew := (Below.refl _ _).drew
    refine Held.takeA (v := .pointer (some ⟨h, 0, none⟩)) 0 (some 36) rfl rfl (by kernel_rfl) (by kernel_rfl) (by kernel_rfl) (by decide) (fun _ _ _ h => h) rfl (Held.y_move rfl rfl) (fun _ => T0) ?_
    simp only [Act.put, Z1, Z2, Z3]
    refine Held.takeB (v := .pointer (some ⟨h, 0, none⟩)) 1 (some 37) [2, 3, 4, 7] rfl rfl (by kernel_rfl) (by kernel_rfl) (by kernel_rfl) (by kernel_rfl) (fun _ _ _ h => h) rfl (Held.y_move rfl rfl) T0 ?_
    simp only [Act.put, Z1, Z2, Z3]
    refine Held.takeB (v := .pointer (some ⟨h, 0, none⟩)) 2 (some 38) [3, 4, 7] rfl rfl (by kernel_rfl) (by kernel_rfl) (by kernel_rfl) (by kernel_rfl) (fun _ _ _ h => h) rfl (Sl.y_nil rfl rfl) T0 ?_
    simp only [Act.put, Z1, Z2, Z3]
    refine Held.takeB (v := .pointer (some ⟨h, 1, none⟩)) 3 (some 39) [4, 7] rfl rfl (by kernel_rfl) (by kernel_rfl) (by kernel_rfl) (by kernel_rfl) (fun _ _ _ h => h) rfl (Held.y_field (k := 1) (s := 0) rfl rfl Try.underlying71 rfl (by kernel_rfl) rfl) T0 ?_
    simp only [Act.put, Z1, Z2, Z3]
    refine Held.takeB (v := .slice A 0 c) 4 (some 40) [7] rfl rfl (by kernel_rfl) (by kernel_rfl) (by kernel_rfl) (by kernel_rfl) (fun _ _ _ h => h) rfl (Held.y_load rfl rfl (by kernel_rfl) (fun W hW => (qh2.below hW hlt2).cell rfl)) T0 ?_
    simp only [Act.put, Z1, Z2, Z3]
    refine Held.takeB (v := .agg #[.int .i64 t, .bool v.is, .slice v.x.A v.x.n v.x.c]) 5 (some 41) [6, 7] rfl rfl (by kernel_rfl) (by kernel_rfl) (by kernel_rfl) (by kernel_rfl) (fun _ _ _ h => h) rfl (Held.y_load_blk (n := 3) rfl rfl Try.underlying73 rfl (by kernel_rfl) rfl (fun W hW => qu2.below hW hbl2)) T0 ?_
    simp only [Act.put, Z1, Z2, Z3]
    refine Held.oneB 6 (by kernel_rfl) ?_
    refine op_build_lst (k := kV) 6 (some 42) 69 73 1 _ 40 [⟨t, v.is, v.x⟩] rfl rfl rfl rfl Try.underlying69 info_kV rfl rfl (by simp [Act.eval, kV, Vw.cells]) (by omega) (by decide) ?_
    intro gl w3 ql b3 hgl
    have T0 : Below u2.heap.size u2 w3 := T0.trans (b3.mono T0.size)
    refine ⟨fun _ => T0, ?_⟩
    simp only [Act.put, Z1, Z2, Z3]
    refine Held.oneB 7 (by kernel_rfl) ?_
    refine op_append_lst0 (k := kV) 7 (some 43) 69 73 rfl rfl rfl rfl Try.underlying69 _ 40 info_kV rfl 0 w3.heap.size 1 1 (some ⟨gl, 0, none⟩) (.slice A 0 c) us [⟨t, v.is, v.x⟩] rfl rfl (OwnL.below hw2 T0) (lst_whole ql rfl wf1) (by have := HL.out; omega) (by omega) (Nat.zero_le _) ?_
    intro v4 w4 o4 g4 n4
    have qh4 := (qh2.below T0 hlt2).grown g4 (fun e => OwnL.ne_blk hw2 qh2 (by decide) e.symm)
    refine ⟨fun h => (by cases h.symm.trans (show _ = true by kernel_rfl)), ?_⟩
    simp only [Act.put, Z1, Z2, Z3]
    refine Sto.oneB_v 8 (some 44) (v := .pointer (some ⟨h, 0, none⟩)) (by kernel_rfl) rfl rfl rfl (Sl.y_nil rfl rfl) (by kernel_rfl) ?_
    simp only [Act.put, Z1, Z2, Z3]
    refine Sto.oneB_v 9 (some 45) (v := .pointer (some ⟨h, 1, none⟩)) (by kernel_rfl) rfl rfl rfl (Held.y_field (k := 1) (s := 0) rfl rfl Try.underlying71 rfl (by kernel_rfl) rfl) (by kernel_rfl) ?_
    simp only [Act.put, Z1, Z2, Z3]
    refine Held.oneB 10 (by kernel_rfl) ?_
    refine op_store_cell 10 none 69 h 1 71 _ v4 rfl rfl rfl rfl rfl rfl qh4 (by simp) (by kernel_rfl) (own_cells o4) (own_one o4) ?_
    intro w5 q5 g5
    refine ⟨fun h => (by cases h.symm.trans (show _ = true by kernel_rfl)), ?_⟩
    simp only [Act.put]
    refine Held.doneB (by kernel_rfl) ?_ _
    go_wp2_with fail
    go_end0
    have KP : KeepsP (fun r => ow r ≠ h + 2 ∧ r < w.heap.size) w w5 := (KeepsP.of_below bo2).trans ((KeepsP.of_below T0).trans ((KeepsP.of_grown g4 (fun r e hr => hr.1 (ho2 r e))).trans (KeepsP.of_grown g5 (fun r e hr => by cases e; exact hr.1 hoh))))
    have q5 : Blk w5 h 71 #[vv, v4] := q5
    have hv4 : OwnL kB 31 w4 0 vv vs := OwnL.kept (OwnL.below (OwnL.below hv bo2) T0) g4 (own_apart' (OwnL.below hv bo2) hw2 (by decide))
    have hv5 : OwnL kB 31 w5 0 vv vs := OwnL.kept hv4 g5 (.inr fun e => OwnL.ne_blk hv4 qh4 (by decide) e)
    have o5 : OwnL kV 73 w5 0 v4 (us ++ [⟨t, v.is, v.x⟩]) := OwnL.kept o4 g5 (.inr fun e => OwnL.ne_blk o4 qh4 (by decide) e)
    exact ⟨rfl, hist_new hoh hlt q5 hv5 (by rw [HS.out]; exact o5) ho1 ho2 n4 (Nat.le_trans bo2.size T0.size) KP.size, KP⟩
  · obtain ⟨g, rfl, hn2⟩ := own_some hw h0
    obtain ⟨m, hm⟩ : ∃ m, us.length = m + 1 := ⟨us.length - 1, by omega⟩
    have hnm : n = m + 1 := by omega
    obtain ⟨v0, hv0⟩ : ∃ v0, us[m]? = some v0 := ⟨_, List.getElem?_eq_getElem (by omega)⟩
    have hd : us.getD m kV.d = v0 := by rw [List.getD_eq_getElem?_getD, hv0]; rfl
    have HR := own_range hw (i := m) (by omega)
    rw [hd] at HR
    have hgl : g < w.heap.size := (OwnL.lt hw g rfl).2
    have hcs := HR 0 (.int .i64 v0.t) rfl
    have HM := Lib.hid (show IntKind.i64.wrap ((n : Int) - 1) = (m : Int) by rw [hnm]; have := HL.out; simp [IntKind.wrap_i64]; omega)
    have HG := Lib.hid (show decide ((0 : Int) ≤ (m : Int)) = true by simp)
    have hmn : m < n := by omega
    have hd2 : us.getD (us.length - 1) Vw.none = v0 := by rw [hm]; exact hd
    have HL2 := Lib.hid hm
    clear hn hd HR hnm hm hn2
    by_cases he : v0.t = t
    · have HS := Lib.hid (show showC t v us = us.set m ⟨t, v.is, v.x⟩ by rw [showC, if_pos ⟨h0, by rw [hd2]; exact he⟩, show us.length - 1 = m by have := HL2.out; omega])
      have HE := Lib.hid (show decide (v0.t = t) = true from decide_eq_true he)
      clear he hd2 hv0 h0
      go_enter Try.func33, Try.ntmps33
      go_wp2_with (first
        | (refine wpList_box_blk (w := w) rfl 73 _ rfl _ rfl ?_; intro u1 qu1 gu1 zu1)
        | (refine wpList_store_field (w := u1) rfl 3 _ _ rfl w.heap.size 0 rfl 73 _ (.int .i64 t) rfl qu1 (by simp) (by kernel_rfl) rfl rfl ?_; intro u2 qu2 gu2 zu2; have bo2 : Below w.heap.size w u2 := ((Below.refl _ w).grown gu1 (Nat.le_refl _) (by simp)).grown gu2 gu1.size (fun r e => by cases e; exact Nat.le_refl _); have qh2 := hb.below bo2 hlt; have hw2 := OwnL.below hw bo2; have hlt2 := qh2.lt; have hbl2 := qu2.lt; have hc2 := qh2.cell (i := 1) rfl; have HCS := Lib.hid (show u2.cell? ⟨g, 0 + m * 3, none⟩ = some (.int .i64 v0.t) from (bo2.cell hgl).trans hcs); clear hcs)
        | (refine Held.wpList_run (w := u2) rfl (v := .int .i64 (m : Int)) (y_subI (S := fun _ => True) _ _ rfl rfl rfl HM.out _ trivial) ?_)
        | (refine Held.wpList_run (w := u2) rfl (v := .bool true) (y_geqI (S := fun _ => True) _ _ rfl rfl rfl HG.out _ trivial) ?_)
        | (refine Held.wpList_run (w := u2) rfl (v := .pointer (some ⟨g, 0 + m * 3, none⟩)) (Held.y_addr (S := fun _ => True) rfl rfl rfl (Rs.run_addr_of (P := Try.prog) 69 73 g 0 n c m 3 .i64 Try.underlying69 (by kernel_rfl) hmn) _ trivial) ?_)
        | (refine Held.wpList_run (w := u2) rfl (v := .pointer (some ⟨g, 0 + m * 3, none⟩)) (Held.y_field (S := fun _ => True) (k := 0) (s := 0) rfl rfl Try.underlying73 rfl (by kernel_rfl) rfl _ trivial) ?_)
        | (refine Held.wpList_run (w := u2) rfl (v := .int .i64 v0.t) (Held.y_load (S := fun W => W = u2) (ty := 3) rfl rfl (by kernel_rfl) (fun W hW => hW ▸ HCS.out) _ rfl) ?_)
        | (refine Held.wpList_run (w := u2) rfl (v := .bool true) (Held.y_eqI (S := fun _ => True) rfl rfl rfl HE.out _ trivial) ?_))
      refine wp_region_bar (T := fun W => Below u2.heap.size u2 W) (s := 7) (by kernel_rfl) ?_
      change wpAnyB _ _ _ _ _ _ _ _ _ u2.drew
      have D0 : Below u2.heap.size u2 u2.drew := (Below.refl _ _).drew
      have T0 : Below u2.heap.size u2 u2.drew := D0
      refine Held.takeB (v := .pointer (some ⟨h, 0, none⟩)) 0 (some 29) [7] rfl rfl (by kernel_rfl) (by kernel_rfl) (by kernel_rfl) (by kernel_rfl) (fun _ _ _ h => h) rfl (Held.y_move rfl rfl) T0 ?_
      simp only [Act.put, Z1, Z2, Z3]
      refine Held.takeB (v := .pointer (some ⟨h, 0, none⟩)) 1 (some 30) [7] rfl rfl (by kernel_rfl) (by kernel_rfl) (by kernel_rfl) (by kernel_rfl) (fun _ _ _ h => h) rfl (Sl.y_nil rfl rfl) T0 ?_
      simp only [Act.put, Z1, Z2, Z3]
      refine Held.takeB (v := .pointer (some ⟨h, 1, none⟩)) 2 (some 31) [7] rfl rfl (by kernel_rfl) (by kernel_rfl) (by kernel_rfl) (by kernel_rfl) (fun _ _ _ h => h) rfl (Held.y_field (k := 1) (s := 0) rfl rfl Try.underlying71 rfl (by kernel_rfl) rfl) T0 ?_
      simp only [Act.put, Z1, Z2, Z3]
      refine Held.takeB (v := .slice (some ⟨g, 0, none⟩) n c) 3 (some 32) [7] rfl rfl (by kernel_rfl) (by kernel_rfl) (by kernel_rfl) (by kernel_rfl) (fun _ _ _ h => h) rfl (Held.y_load rfl rfl (by kernel_rfl) (fun W hW => (qh2.below hW hlt2).cell rfl)) T0 ?_
      simp only [Act.put, Z1, Z2, Z3]
      refine Held.takeB (v := .int .i64 (m : Int)) 4 (some 33) [7] rfl rfl (by kernel_rfl) (by kernel_rfl) (by kernel_rfl) (by kernel_rfl) (fun _ _ _ h => h) rfl (Held.y_move rfl rfl) T0 ?_
      simp only [Act.put, Z1, Z2, Z3]
      refine Held.takeB (v := .agg #[.int .i64 t, .bool v.is, .slice v.x.A v.x.n v.x.c]) 5 (some 34) [7] rfl rfl (by kernel_rfl) (by kernel_rfl) (by kernel_rfl) (by kernel_rfl) (fun _ _ _ h => h) rfl (Held.y_load_blk (n := 3) rfl rfl Try.underlying73 rfl (by kernel_rfl) rfl (fun W hW => qu2.below hW hbl2)) T0 ?_
      simp only [Act.put, Z1, Z2, Z3]
      refine Held.takeB (v := .pointer (some ⟨g, 0 + m * 3, none⟩)) 6 (some 35) [7] rfl rfl (by kernel_rfl) (by kernel_rfl) (by kernel_rfl) (by kernel_rfl) (fun _ _ _ h => h) rfl (Held.y_addr rfl rfl rfl (fun W => Rs.run_addr_of (P := Try.prog) 69 73 g 0 n c m 3 .i64 Try.underlying69 (by kernel_rfl) (by omega) W)) T0 ?_
      simp only [Act.put, Z1, Z2, Z3]
      refine Held.oneB 7 (by kernel_rfl) ?_
      refine op_store_ownL (k := kV) 7 none 73 0 g n c (0 + m * 3) m us ⟨t, v.is, v.x⟩ rfl rfl rfl rfl (by kernel_rfl) rfl (by show 0 + m * 3 = m * 3; omega) rfl (OwnL.below hw2 D0) (by have := HL2.out; omega) ?_
      intro w3 o3 g3
      refine ⟨fun h => (by cases h.symm.trans (show _ = true by kernel_rfl)), ?_⟩
      simp only [Act.put]
      refine Held.doneB (by kernel_rfl) ?_ _
      go_wp2_with fail
      refine bodyPost_ret (results_none rfl _ _ _) rfl ?_
      have KP : KeepsP (fun r => ow r ≠ h + 2 ∧ r < w.heap.size) w w3 := (KeepsP.of_below bo2).trans ((KeepsP.of_below D0).trans (KeepsP.of_grown g3 (fun r e hr => by cases e; exact hr.1 (ho2 g rfl))))
      have qh3 : Blk w3 h 71 #[vv, .slice (some ⟨g, 0, none⟩) n c] := (qh2.below D0 hlt2).grown g3 (fun e => OwnL.ne_blk hw2 qh2 (by decide) (by cases e; rfl))
      have hv3 : OwnL kB 31 w3 0 vv vs := OwnL.kept (OwnL.below (OwnL.below hv bo2) D0) g3 (own_apart' (OwnL.below hv bo2) hw2 (by decide))
      exact ⟨rfl, ⟨ow, ⟨hoh, vv, _, qh3, hv3, by rw [HS.out]; exact o3, ho1, ho2⟩, fun _ _ => rfl, fun r hr => .inl hr⟩, KP⟩
    · have HS := Lib.hid (show showC t v us = us ++ [⟨t, v.is, v.x⟩] by rw [showC, if_neg (by rw [hd2]; exact fun h => he h.2)])
      have HE := Lib.hid (show decide (v0.t = t) = false from decide_eq_false he)
      clear he hd2 hv0 h0
      go_enter Try.func33, Try.ntmps33
      go_wp2_with (first
        | (refine wpList_box_blk (w := w) rfl 73 _ rfl _ rfl ?_; intro u1 qu1 gu1 zu1)
        | (refine wpList_store_field (w := u1) rfl 3 _ _ rfl w.heap.size 0 rfl 73 _ (.int .i64 t) rfl qu1 (by simp) (by kernel_rfl) rfl rfl ?_; intro u2 qu2 gu2 zu2; have bo2 : Below w.heap.size w u2 := ((Below.refl _ w).grown gu1 (Nat.le_refl _) (by simp)).grown gu2 gu1.size (fun r e => by cases e; exact Nat.le_refl _); have qh2 := hb.below bo2 hlt; have hw2 := OwnL.below hw bo2; have hlt2 := qh2.lt; have hbl2 := qu2.lt; have hc2 := qh2.cell (i := 1) rfl; have HCS := Lib.hid (show u2.cell? ⟨g, 0 + m * 3, none⟩ = some (.int .i64 v0.t) from (bo2.cell hgl).trans hcs); clear hcs)
        | (refine Held.wpList_run (w := u2) rfl (v := .int .i64 (m : Int)) (y_subI (S := fun _ => True) _ _ rfl rfl rfl HM.out _ trivial) ?_)
        | (refine Held.wpList_run (w := u2) rfl (v := .bool true) (y_geqI (S := fun _ => True) _ _ rfl rfl rfl HG.out _ trivial) ?_)
        | (refine Held.wpList_run (w := u2) rfl (v := .pointer (some ⟨g, 0 + m * 3, none⟩)) (Held.y_addr (S := fun _ => True) rfl rfl rfl (Rs.run_addr_of (P := Try.prog) 69 73 g 0 n c m 3 .i64 Try.underlying69 (by kernel_rfl) hmn) _ trivial) ?_)
        | (refine Held.wpList_run (w := u2) rfl (v := .pointer (some ⟨g, 0 + m * 3, none⟩)) (Held.y_field (S := fun _ => True) (k := 0) (s := 0) rfl rfl Try.underlying73 rfl (by kernel_rfl) rfl _ trivial) ?_)
        | (refine Held.wpList_run (w := u2) rfl (v := .int .i64 v0.t) (Held.y_load (S := fun W => W = u2) (ty := 3) rfl rfl (by kernel_rfl) (fun W hW => hW ▸ HCS.out) _ rfl) ?_)
        | (refine Held.wpList_run (w := u2) rfl (v := .bool false) (Held.y_eqI (S := fun _ => True) rfl rfl rfl HE.out _ trivial) ?_))
      refine wp_region_bar (T := fun W => Below u2.heap.size u2 W) (s := 7) (by kernel_rfl) ?_
      change wpAnyB _ _ _ _ _ _ _ _ _ u2.drew
      have T0 : Below u2.heap.size u2 u2.drew := (Below.refl _ _).drew
      refine Held.takeA (v := .pointer (some ⟨h, 0, none⟩)) 0 (some 36) rfl rfl (by kernel_rfl) (by kernel_rfl) (by kernel_rfl) (by decide) (fun _ _ _ h => h) rfl (Held.y_move rfl rfl) (fun _ => T0) ?_
      simp only [Act.put, Z1, Z2, Z3]
      refine Held.takeB (v := .pointer (some ⟨h, 0, none⟩)) 1 (some 37) [2, 3, 4, 7] rfl rfl (by kernel_rfl) (by kernel_rfl) (by kernel_rfl) (by kernel_rfl) (fun _ _ _ h => h) rfl (Held.y_move rfl rfl) T0 ?_
      simp only [Act.put, Z1, Z2, Z3]
      refine Held.takeB (v := .pointer (some ⟨h, 0, none⟩)) 2 (some 38) [3, 4, 7] rfl rfl (by kernel_rfl) (by kernel_rfl) (by kernel_rfl) (by kernel_rfl) (fun _ _ _ h => h) rfl (Sl.y_nil rfl rfl) T0 ?_
      simp only [Act.put, Z1, Z2, Z3]
      refine Held.takeB (v := .pointer (some ⟨h, 1, none⟩)) 3 (some 39) [4, 7] rfl rfl (by kernel_rfl) (by kernel_rfl) (by kernel_rfl) (by kernel_rfl) (fun _ _ _ h => h) rfl (Held.y_field (k := 1) (s := 0) rfl rfl Try.underlying71 rfl (by kernel_rfl) rfl) T0 ?_
      simp only [Act.put, Z1, Z2, Z3]
      refine Held.takeB (v := .slice (some ⟨g, 0, none⟩) n c) 4 (some 40) [7] rfl rfl (by kernel_rfl) (by kernel_rfl) (by kernel_rfl) (by kernel_rfl) (fun _ _ _ h => h) rfl (Held.y_load rfl rfl (by kernel_rfl) (fun W hW => (qh2.below hW hlt2).cell rfl)) T0 ?_
      simp only [Act.put, Z1, Z2, Z3]
      refine Held.takeB (v := .agg #[.int .i64 t, .bool v.is, .slice v.x.A v.x.n v.x.c]) 5 (some 41) [6, 7] rfl rfl (by kernel_rfl) (by kernel_rfl) (by kernel_rfl) (by kernel_rfl) (fun _ _ _ h => h) rfl (Held.y_load_blk (n := 3) rfl rfl Try.underlying73 rfl (by kernel_rfl) rfl (fun W hW => qu2.below hW hbl2)) T0 ?_
      simp only [Act.put, Z1, Z2, Z3]
      refine Held.oneB 6 (by kernel_rfl) ?_
      refine op_build_lst (k := kV) 6 (some 42) 69 73 1 _ 40 [⟨t, v.is, v.x⟩] rfl rfl rfl rfl Try.underlying69 info_kV rfl rfl (by simp [Act.eval, kV, Vw.cells]) (by omega) (by decide) ?_
      intro gl w3 ql b3 hgl
      have T0 : Below u2.heap.size u2 w3 := T0.trans (b3.mono T0.size)
      refine ⟨fun _ => T0, ?_⟩
      simp only [Act.put, Z1, Z2, Z3]
      refine Held.oneB 7 (by kernel_rfl) ?_
      refine op_append_lst0 (k := kV) 7 (some 43) 69 73 rfl rfl rfl rfl Try.underlying69 _ 40 info_kV rfl 0 w3.heap.size 1 1 (some ⟨gl, 0, none⟩) (.slice (some ⟨g, 0, none⟩) n c) us [⟨t, v.is, v.x⟩] rfl rfl (OwnL.below hw2 T0) (lst_whole ql rfl wf1) (by have := HL.out; omega) (by omega) (Nat.zero_le _) ?_
      intro v4 w4 o4 g4 n4
      have qh4 := (qh2.below T0 hlt2).grown g4 (fun e => OwnL.ne_blk hw2 qh2 (by decide) e.symm)
      refine ⟨fun h => (by cases h.symm.trans (show _ = true by kernel_rfl)), ?_⟩
      simp only [Act.put, Z1, Z2, Z3]
      refine Sto.oneB_v 8 (some 44) (v := .pointer (some ⟨h, 0, none⟩)) (by kernel_rfl) rfl rfl rfl (Sl.y_nil rfl rfl) (by kernel_rfl) ?_
      simp only [Act.put, Z1, Z2, Z3]
      refine Sto.oneB_v 9 (some 45) (v := .pointer (some ⟨h, 1, none⟩)) (by kernel_rfl) rfl rfl rfl (Held.y_field (k := 1) (s := 0) rfl rfl Try.underlying71 rfl (by kernel_rfl) rfl) (by kernel_rfl) ?_
      simp only [Act.put, Z1, Z2, Z3]
      refine Held.oneB 10 (by kernel_rfl) ?_
      refine op_store_cell 10 none 69 h 1 71 _ v4 rfl rfl rfl rfl rfl rfl qh4 (by simp) (by kernel_rfl) (own_cells o4) (own_one o4) ?_
      intro w5 q5 g5
      refine ⟨fun h => (by cases h.symm.trans (show _ = true by kernel_rfl)), ?_⟩
      simp only [Act.put]
      refine Held.doneB (by kernel_rfl) ?_ _
      go_wp2_with fail
      go_end0
      have KP : KeepsP (fun r => ow r ≠ h + 2 ∧ r < w.heap.size) w w5 := (KeepsP.of_below bo2).trans ((KeepsP.of_below T0).trans ((KeepsP.of_grown g4 (fun r e hr => hr.1 (ho2 r e))).trans (KeepsP.of_grown g5 (fun r e hr => by cases e; exact hr.1 hoh))))
      have q5 : Blk w5 h 71 #[vv, v4] := q5
      have hv4 : OwnL kB 31 w4 0 vv vs := OwnL.kept (OwnL.below (OwnL.below hv bo2) T0) g4 (own_apart' (OwnL.below hv bo2) hw2 (by decide))
      have hv5 : OwnL kB 31 w5 0 vv vs := OwnL.kept hv4 g5 (.inr fun e => OwnL.ne_blk hv4 qh4 (by decide) e)
      have o5 : OwnL kV 73 w5 0 v4 (us ++ [⟨t, v.is, v.x⟩]) := OwnL.kept o4 g5 (.inr fun e => OwnL.ne_blk o4 qh4 (by decide) e)
      exact ⟨rfl, hist_new hoh hlt q5 hv5 (by rw [HS.out]; exact o5) ho1 ho2 n4 (Nat.le_trans bo2.size T0.size) KP.size, KP⟩
theorem show_any {ow : Nat → Nat} {w : World} {s N : Nat} {W : Int} {es : List Ent} (H : Sto ow w s W N es) {i : Nat} {e : Ent} (hi : es[i]? = some e) {t : Int} {v : Vw} (ht : (Lit.int .i64 t).wf = true) (hv : Rd (fun r => ow r = 1) w v.x) (hN : N ≤ 1000000) :
    Calls Try.prog 33 #[.pointer (some ⟨e.h, 0, none⟩), .int .i64 t, .agg #[.int .i64 v.t, .bool v.is, .slice v.x.A v.x.n v.x.c]] w fun r w' => r = .returned (.tuple #[]) ∧ ∃ ow', Sto ow' w' s W (N + 1) (es.set i { e with us := showC t v e.us }) ∧ Chg ow ow' w w' := by
  have hm := List.mem_of_getElem? hi
  have hf := H.few e hm
  refine (show_hist (H.hist e hm) ht (by omega)).mono ?_
  rintro r w' ⟨rfl, ow', h1, h2, h3, h4⟩
  refine ⟨rfl, ow', ?_⟩
  have hl : ∀ r, ow' r ≠ 0 → r < w'.heap.size := fun r hr => by
    rcases h4 r hr with h | h
    · exact Nat.lt_of_lt_of_le (H.low r h) h2.size
    · exact h.2
  have hk1 : KeepsP (fun r => ow r = 1) w w' := ⟨h2.os, h2.tape, h2.output, h2.size, fun r o hr ho => h2.block r o ⟨by have h0 : ow r = 1 := hr; omega, (Array.getElem?_eq_some_iff.1 ho).1⟩ ho⟩
  have hb := (H.bytes e hm).keep hk1 (fun r h _ => h3 r h)
  have hv' := (Rd.less (S' := fun r => ow' r = 1 ∧ ow r = 1) hv (fun b hb hlt => ⟨(h3 b hlt).trans hb, hb⟩)).keep (hk1.less fun r hr => hr.2) |>.less (S' := fun r => ow' r = 1) fun b hb _ => hb.1
  have hb' : Bytes ow' w' e.vs (showC t v e.us) := by
    refine ⟨hb.vs, fun u hu => ?_⟩
    unfold showC at hu
    split at hu
    · rcases List.mem_or_eq_of_mem_set hu with hu | rfl
      · exact hb.us u hu
      · exact ⟨hv', ht⟩
    · rcases List.mem_append.1 hu with hu | hu
      · exact hb.us u hu
      · rw [List.mem_singleton.1 hu]
        exact ⟨hv', ht⟩
  have hn : (showC t v e.us).length ≤ N + 1 := by
    unfold showC
    split
    · rw [List.length_set]; omega
    · simp; omega
  exact (H.more (Nat.le_succ N)).upd hi h2 h3 hl h1 hb' ⟨by omega, hn⟩
end Go.Proofs.Ytbippmbcgkicaaa.Sto
namespace Go.Proofs.Ytbippmbcgkicaaa.Sto
open Go.RowKit Go.Shelf Go.Proofs.Ytbippmbcgkicaaa Mem Held Sl Go.Proofs.Ytbippmbcgkicaaa.Range
attribute [local irreducible] wpList wpListIn Calls
theorem y_lookP {ρ : Operand → Value} {o : Oper} {m x : Operand} {k : Nm} {w : World} {b n : Nat} {M : List (Nm × Option Nat)} {g : Option Nat} {v : Value} (ho : o.op = .lookup 62 m x false) (hm : ρ m = .map (some b)) (hx : ρ x = encStr k) (hk : k.length ≤ maxLen)
    (h : MpS eP Try.prog 9 w b n M ∧ lookS none M k = g) (hv : ptrV g = v) : (execOp ρ o).run Try.prog w = .ok (.value v) w := by
  subst hv
  have := y_lookS (S := fun W => W = w) ho hm hx hk Try.underlying9 Try.underlying62 zero_ptr (fun W hW => hW ▸ h.1) w rfl
  rw [← h.2]
  exact this
theorem known_old {ow : Nat → Nat} {w : World} {s N : Nat} {W : Int} {es : List Ent} (H : Sto ow w s W N es) {e : Ent} (he : e ∈ es) :
    Calls Try.prog 44 #[.pointer (some ⟨s, 0, none⟩), encStr e.k] w fun r w' => r = .returned (.pointer (some ⟨e.h, 0, none⟩)) ∧ w = w' := by
  have hk := (H.few e he).2.2
  obtain ⟨mv, hb, hm⟩ := H.blk
  have hc := hb.cell (i := 0) rfl
  rcases hm with ⟨rfl, rfl⟩ | ⟨b, rfl, _, hM⟩
  · cases he
  · have HL := Lib.hid (And.intro hM (look_ent H.keys he))
    clear hM
    obtain ⟨k, hkk⟩ : ∃ k, e.k = k := ⟨_, rfl⟩
    rw [hkk] at hk HL ⊢
    clear hkk
    go_enter Try.func44, Try.ntmps44
    go_wp2_with (first
      | (refine Held.wpList_run (w := w) rfl (v := .bool false) (y_mapnil (S := fun _ => True) (A := some b) rfl rfl rfl Try.underlying62 _ trivial) ?_)
      | (refine wpList_run (w := w) rfl (v := .pointer (some ⟨e.h, 0, none⟩)) (y_lookP (w := w) (b := b) (n := N) (M := _) (g := some e.h) rfl rfl rfl hk HL.out rfl) ?_))
    go_ret
    exact ⟨rfl, rfl⟩
set_option maxRecDepth 100000 in
set_option maxHeartbeats 8000000 in
theorem known_new {ow : Nat → Nat} {w : World} {s N : Nat} {W : Int} {es : List Ent} (H : Sto ow w s W N es) {k : Nm} (hk : k.length ≤ maxLen) (hne : ∀ e ∈ es, e.k ≠ k) (hN : N ≤ 1000000) :
    Calls Try.prog 44 #[.pointer (some ⟨s, 0, none⟩), encStr k] w fun r w' => ∃ g ow', r = .returned (.pointer (some ⟨g, 0, none⟩)) ∧ Sto ow' w' s W (N + 1) (es ++ [⟨k, g, [], []⟩]) ∧ Chg ow ow' w w' := by
  obtain ⟨mv, hb, hm⟩ := H.blk
  have hc := hb.cell (i := 0) rfl
  have hlt := hb.lt
  have hno := look_no hne
  have hnk : ¬ k ∈ ((es.map fun e => (e.k, some e.h)).map (·.1)) := by
    rw [ent_keys, List.mem_map]
    rintro ⟨e, he, h⟩
    exact hne e he h
  rcases hm with ⟨rfl, rfl⟩ | ⟨b, rfl, hob, hM⟩
  · have HA := Lib.hid (fun (w' : World) (b g : Nat) => Sto.add (w' := w') H (b := b) (g := g) hk hne)
    clear hno hnk hne
    go_enter Try.func44, Try.ntmps44
    go_wp2_with (first
      | (refine Held.wpList_run (w := w) rfl (v := .bool true) (y_mapnil (S := fun _ => True) (A := none) rfl rfl rfl Try.underlying62 _ trivial) ?_)
      | (refine wpList_makeMap_S eP (P := Try.prog) (w := w) rfl 62 9 rfl ?_; intro u1 m1 g1 z1; have qs1 := hb.grown g1 (by simp))
      | (refine wpList_store_field (w := u1) rfl 62 _ _ rfl s 0 rfl 64 _ (.map (some w.heap.size)) rfl qs1 (by simp) (by kernel_rfl) rfl rfl ?_; intro u2 q2 g2 z2; have hc2 := q2.cell (i := 0) rfl; have m2 := m1.kept g2 (by intro e; injection e with e; omega); have HL2 := Lib.hid (And.intro m2 (show lookS (none : Option Nat) [] k = none from rfl)))
      | (refine wpList_box_blk (w := u2) rfl 71 _ rfl _ rfl ?_; intro u3 q3 g3 z3; have m3 := m2.kept g3 (by simp); have qs3 := Blk.grown q2 g3 (by simp))
      | (refine wpList_mapUpdate_S (E := eP) (w := u3) rfl _ _ _ 62 9 k (some u2.heap.size) rfl w.heap.size 0 [] rfl rfl rfl hk trivial Try.underlying9 Try.underlying62 m3 (by omega) ?_; intro u4 m4 g4; have qs4 := Blk.grown qs3 g4 (by intro e; injection e with e; omega); have qh4 := Blk.grown q3 g4 (by intro e; injection e with e; have := g1.size; have := g2.size; have := z1.out; have := z2.out; omega); have hc4 := qs4.cell (i := 0) rfl; have HL4 := Lib.hid (And.intro m4 (show lookS (none : Option Nat) (putS k (some u2.heap.size) []) k = some u2.heap.size by simp [putS, lookS])))
      | (refine wpList_run (w := u4) rfl (v := .pointer (some ⟨u2.heap.size, 0, none⟩)) (y_lookP (w := u4) (b := w.heap.size) (n := 0 + 1) (M := _) (g := some u2.heap.size) rfl rfl rfl hk HL4.out rfl) ?_)
      | (refine wpList_run (w := u2) rfl (v := .pointer none) (y_lookP (w := u2) (b := w.heap.size) (n := 0) (M := _) (g := none) rfl rfl rfl hk HL2.out rfl) ?_))
    go_ret
    have s12 : w.heap.size ≤ u2.heap.size := Nat.le_trans g1.size g2.size
    have KP : KeepsP (fun r => ow r ≠ s + 2 ∧ r < w.heap.size) w u4 := (KeepsP.of_grown g1 (fun r e => by cases e)).trans ((KeepsP.of_grown g2 (fun r e hr => by cases e; exact hr.1 H.own)).trans ((KeepsP.of_grown g3 (fun r e => by cases e)).trans (KeepsP.of_grown g4 (fun r e hr => by cases e; have := hr.2; omega))))
    obtain ⟨ow', h1, h2⟩ := HA.out u4 w.heap.size u2.heap.size KP qs4 (m4.mono (by omega)) (.inr (Nat.le_refl _)) qh4 s12
    exact ⟨_, ow', rfl, h1, h2⟩
  · have HA := Lib.hid (fun (w' : World) (g : Nat) => Sto.add (w' := w') H (b := b) (g := g) hk hne)
    have HL := Lib.hid (And.intro hM hno)
    have HPN := Lib.hid (fun (g : Nat) => putS_new (k := k) (v := some g) hnk)
    have hbl := hM.lt
    have hsb : s ≠ b := fun e => by
      obtain ⟨es', clock, h1⟩ := hM.obj
      have hb' : w.heap[s]? = some (.cells #[.map (some b), .int .i64 W] 64 (0, 0)) := hb
      rw [e, h1] at hb'
      cases hb'
    generalize hMM : (es.map fun e => (e.k, some e.h)) = M at hM HL HPN
    have hMM := Lib.hid hMM
    clear hno hnk hne
    go_enter Try.func44, Try.ntmps44
    go_wp2_with (first
      | (refine Held.wpList_run (w := w) rfl (v := .bool false) (y_mapnil (S := fun _ => True) (A := some b) rfl rfl rfl Try.underlying62 _ trivial) ?_)
      | (refine wpList_box_blk (w := w) rfl 71 _ rfl _ rfl ?_; intro u3 q3 g3 z3; have m3 := hM.kept g3 (by simp); have qs3 := Blk.grown hb g3 (by simp))
      | (refine wpList_mapUpdate_S (E := eP) (w := u3) rfl _ _ _ 62 9 k (some w.heap.size) rfl b N M rfl rfl rfl hk trivial Try.underlying9 Try.underlying62 m3 (by omega) ?_; intro u4 m4 g4; have qs4 := Blk.grown qs3 g4 (by intro e; injection e with e; exact hsb e); have qh4 := Blk.grown q3 g4 (by intro e; injection e with e; omega); have hc4 := qs4.cell (i := 0) rfl; have HL4 := Lib.hid (And.intro m4 (show lookS (none : Option Nat) (putS k (some w.heap.size) M) k = some w.heap.size by rw [lookS_put, if_pos rfl])))
      | (refine wpList_run (w := u4) rfl (v := .pointer (some ⟨w.heap.size, 0, none⟩)) (y_lookP (w := u4) (b := b) (n := N + 1) (M := _) (g := some w.heap.size) rfl rfl rfl hk HL4.out rfl) ?_)
      | (refine wpList_run (w := w) rfl (v := .pointer none) (y_lookP (w := w) (b := b) (n := N) (M := _) (g := none) rfl rfl rfl hk HL.out rfl) ?_))
    go_ret
    have KP : KeepsP (fun r => ow r ≠ s + 2 ∧ r < w.heap.size) w u4 := (KeepsP.of_grown g3 (fun r e => by cases e)).trans (KeepsP.of_grown g4 (fun r e hr => by cases e; exact hr.1 hob))
    have m5 := m4
    rw [HPN.out, ← hMM.out] at m5
    obtain ⟨ow', h1, h2⟩ := HA.out u4 w.heap.size KP qs4 (by rw [List.map_append]; exact m5) (.inl hob) qh4 (Nat.le_refl _)
    exact ⟨_, ow', rfl, h1, h2⟩
theorem known_any {ow : Nat → Nat} {w : World} {s N : Nat} {W : Int} {es : List Ent} (H : Sto ow w s W N es) {k : Nm} (hk : k.length ≤ maxLen) (hN : N ≤ 1000000) :
    Calls Try.prog 44 #[.pointer (some ⟨s, 0, none⟩), encStr k] w fun r w' => ∃ (ow' : Nat → Nat) (es' : List Ent) (i : Nat) (e : Ent), r = .returned (.pointer (some ⟨e.h, 0, none⟩)) ∧ Sto ow' w' s W (N + 1) es' ∧ es'[i]? = some e ∧ e.k = k ∧ absL es' = addP k (absL es) ∧ Chg ow ow' w w' := by
  by_cases hm : ∃ e ∈ es, e.k = k
  · obtain ⟨e, he, rfl⟩ := hm
    obtain ⟨i, hi⟩ := List.getElem?_of_mem he
    refine (known_old H he).mono ?_
    rintro r w' ⟨rfl, rfl⟩
    refine ⟨ow, es, i, e, rfl, H.more (Nat.le_succ N), hi, rfl, ?_, Chg.refl _ _⟩
    unfold addP
    rw [if_pos]
    show e.k ∈ keysP (absL es)
    rw [abs_keys]
    exact List.mem_map.2 ⟨e, he, rfl⟩
  · have hne : ∀ e ∈ es, e.k ≠ k := fun e he h => hm ⟨e, he, h⟩
    refine (known_new H hk hne hN).mono ?_
    rintro r w' ⟨g, ow', rfl, h1, h2⟩
    refine ⟨ow', _, es.length, ⟨k, g, [], []⟩, rfl, h1, by simp, rfl, ?_, h2⟩
    unfold addP
    rw [abs_app, if_neg]
    · rfl
    · show ¬ k ∈ keysP (absL es)
      rw [abs_keys, List.mem_map]
      rintro ⟨e, he, h⟩
      exact hne e he h
set_option maxRecDepth 100000 in
set_option maxHeartbeats 8000000 in
theorem put_any {ow : Nat → Nat} {w : World} {s N : Nat} {W : Int} {es : List Ent} (H : Sto ow w s W N es) {k : Nm} (hk : k.length ≤ maxLen) {x : Bs} (hx : Rd (fun b => ow b ≤ 1) w x) (hN : N ≤ 900000) :
    Calls Try.prog 20 #[.pointer (some ⟨s, 0, none⟩), encStr k, .slice x.A x.n x.c] w fun r w' => r = .returned (.tuple #[]) ∧ ∃ ow' es', Sto ow' w' s (W + 1) (N + 3) es' ∧ Chg ow ow' w w' ∧ absL es' = putP (W + 1) k x.zs (absL es) := by
  have hW := H.wf
  have HAD := Lib.hid (show IntKind.i64.wrap (W + 1) = W + 1 by simp [IntKind.wrap_i64]; omega)
  have HW2 := Lib.hid hW
  have HWF := Lib.hid (show (Lit.int .i64 (W + 1)).wf = true by simp [Lit.wf, IntKind.min, IntKind.max, IntKind.signed, IntKind.bits]; omega)
  clear hW
  go_enter Try.func20, Try.ntmps20
  go_wp2_with fail
  refine (known_any H hk (by omega)).mono ?_
  rintro r1 w1 ⟨ow1, es1, i, e, rfl, H1, hi, hek, habs, C1⟩
  have hx1 := hx.keep C1.keep
  go_wp2_with fail
  refine (copied_any hx1).mono ?_
  rintro r2 w2 ⟨y, rfl, hyz, _, hy, b2⟩
  obtain ⟨ow2, H2, C2, hy2⟩ := H1.take b2 hy
  obtain ⟨hoh, vv, ww, hbh, hv, hw, ho1, ho2⟩ := H2.hist e (List.mem_of_getElem? hi)
  have hfe := H2.few e (List.mem_of_getElem? hi)
  have hch := hbh.cell (i := 0) rfl
  have HPU := Lib.hid (fun (w3 w4 w5 : World) (v' : Value) => Sto.push (w1 := w3) (w2 := w4) (w3 := w5) (v' := v') H2 hi hy2 hbh hv hw ho1 ho2)
  have HLV := Lib.hid hfe.1
  have HC := Lib.hid (And.intro C1 (And.intro C2 (And.intro hek habs)))
  have HY := Lib.hid (And.intro hy2 (And.intro hyz hi))
  have HLW := Lib.hid H2.low
  have hil := (List.getElem?_eq_some_iff.1 hi).1
  clear hfe hw ho1 ho2 hoh hy hx hx1 C1 C2 hek habs hi hyz hy2
  go_wp2_with (first
    | (refine wpList_build_lst1 (k := kB) (w := w2) rfl 68 31 1 _ rfl Try.underlying68 _ 24 info_kB rfl [y] rfl (by simp [Act.eval, kB, Sl.flat]) (by intro v hv; simp [kB, Sl.flat] at hv; rw [hv]; rfl) (by omega) (by omega) ?_; intro w3 q3 g3 z3; have hv3 := OwnL.kept hv g3 (by cases vv.ownBlock <;> simp); have hb3 := Blk.grown hbh g3 (by simp))
    | (refine wpList_append_lst0 (k := kB) (w := w3) rfl _ _ 68 31 rfl Try.underlying68 _ 24 info_kB rfl 0 w3.heap.size 1 1 (some ⟨w2.heap.size, 0, none⟩) vv e.vs [y] rfl rfl hv3 (lst_whole q3 rfl (by simp [kB])) (by have := HLV.out; omega) (by omega) (Nat.zero_le _) ?_; intro v4 w4 o4 g4 n4; have qh4 := Blk.grown hb3 g4 (fun e' => OwnL.ne_blk hv3 hb3 (by decide) e'.symm))
    | (refine wpList_store_field (w := w4) rfl 68 _ _ rfl e.h 0 rfl 71 _ v4 rfl qh4 (by simp) (by kernel_rfl) (own_cells o4) (own_one o4) ?_; intro w5 q5 g5 z5; obtain ⟨ow3, H3, C3⟩ := HPU.out w3 w4 w5 v4 g3 o4 g4 n4 q5 g5; obtain ⟨mv, hbs, _⟩ := H3.blk; have hcs := hbs.cell (i := 1) rfl)
    | (refine Held.wpList_run (w := w5) rfl (v := .int .i64 (W + 1)) (y_addI (S := fun _ => True) _ _ rfl rfl rfl HAD.out _ trivial) ?_)
    | (refine wpList_store_field (w := w5) rfl 3 _ _ rfl s 1 rfl 64 _ (.int .i64 (W + 1)) rfl hbs (by simp) (by kernel_rfl) rfl rfl ?_; intro w6 q6 g6 z6; obtain ⟨H6, C6⟩ := Sto.turn (W' := W + 1) H3 hbs g6 q6 (by have := HW2.out; omega); have hcs6 := Blk.cell (cs := #[mv, .int .i64 (W + 1)]) q6 (i := 1) rfl)
    | (refine wpList_build_blk rfl 73 #[_, _] rfl #[.int .i64 0, .bool true, .slice y.A y.n y.c] (by kernel_rfl) ?_))
  obtain ⟨C1, C2, hek, habs⟩ := HC.out
  obtain ⟨hy2, hyz, hi⟩ := HY.out
  have C36 := C3.trans C6
  have hy6 := C36.rd HLW.out hy2
  refine (show_any H6 (i := i) (e := { e with vs := e.vs ++ [y] }) (t := W + 1) (v := ⟨0, true, y⟩) (by rw [List.getElem?_set, if_pos rfl, if_pos hil]) HWF.out hy6 (by omega)).mono ?_
  rintro r7 w7 ⟨rfl, ow7, H7, C7⟩
  go_wp2_with fail
  go_end0
  refine ⟨rfl, ow7, _, H7, C1.trans (C2.trans (C36.trans C7)), ?_⟩
  rw [List.set_set, abs_set (f := putF (W + 1) x.zs) H2.keys hi (by rfl) (by simp [Ent.p, putF, showC_abs, hyz, Vw.p]), habs, hek]
  rfl
end Go.Proofs.Ytbippmbcgkicaaa.Sto
