/-
  Package store's Get, Delete, Swap, Replay and Flip, by their contracts.
  Package store's Flip, and what is asked of a store first (awake), by their contracts.
  Package store's calls, by what they make of what the store says; what is asked of a store first (awake).
-/
import Derived.Test.YtbippmbcgkicaaaB6
import Derived.Test.YtbippmbcgkicaaaB5
set_option linter.unusedVariables false
namespace Go.Proofs.Ytbippmbcgkicaaa.Sto
open Go.RowKit Go.Shelf Go.Proofs.Ytbippmbcgkicaaa Mem Held Sl Go.Proofs.Ytbippmbcgkicaaa.Range
attribute [local irreducible] wpList wpListIn Calls
structure Shows (S0 : Value) (w : World) (k : Nm) (R : Nat → Prop) (p : Option Nat) (v : Vw) : Prop where
  find : ∀ w', Below w.heap.size w w' → Calls Try.prog 32 #[S0, encStr k] w' fun r w'' => r = .returned (ptrV p) ∧ w' = w''
  now : ∀ w', Below w.heap.size w w' → Calls Try.prog 36 #[ptrV p] w' fun r w'' => r = .returned (.agg #[.int .i64 v.t, .bool v.is, .slice v.x.A v.x.n v.x.c]) ∧ Below w'.heap.size w' w''
  rd : Rd R w v.x
theorem Shows.below {S0 : Value} {w w' : World} {k : Nm} {R : Nat → Prop} {p : Option Nat} {v : Vw} (h : Shows S0 w k R p v) (hb : Below w.heap.size w w') : Shows S0 w' k R p v :=
  ⟨fun w2 h2 => h.find w2 (hb.trans (h2.mono hb.size)), fun w2 h2 => h.now w2 (hb.trans (h2.mono hb.size)), h.rd.keep (KeepsP.of_below hb)⟩
theorem shows_any {ow : Nat → Nat} {w : World} {s N : Nat} {W : Int} {es : List Ent} (H : Sto ow w s W N es) {k : Nm} (hk : k.length ≤ maxLen) (hu : ∀ e ∈ es, e.us ≠ []) (hN : N ≤ 1000000) :
    ∃ p v, Shows (.pointer (some ⟨s, 0, none⟩)) w k (fun r => ow r = 1) p v ∧ shwP (absL es) k = (v.is, v.x.zs) ∧ ((p = none ∧ entP (absL es) k = none) ∨ ∃ (i : Nat) (e : Ent), es[i]? = some e ∧ e.k = k ∧ p = some e.h) := by
  by_cases hm : ∃ e ∈ es, e.k = k
  · obtain ⟨e, he, rfl⟩ := hm
    obtain ⟨i, hi⟩ := List.getElem?_of_mem he
    have hf := H.few e he
    obtain ⟨m, hm⟩ : ∃ m, e.us.length = m + 1 := ⟨e.us.length - 1, by have := List.length_pos_iff.2 (hu e he); omega⟩
    obtain ⟨v, hv⟩ : ∃ v, e.us[m]? = some v := ⟨_, List.getElem?_eq_getElem (by omega)⟩
    refine ⟨some e.h, v, ⟨fun w' hb => find_some (H.below hb) he, fun w' hb => now_some ((H.below hb).hist e he) hm hv (by omega), ((H.bytes e he).us v (List.mem_of_getElem? hv)).1⟩, ?_, .inr ⟨i, e, hi, rfl, rfl⟩⟩
    have hl : lastP (e.us.map Vw.p) = v.p := by
      unfold lastP
      rw [List.length_map, hm, Nat.add_sub_cancel, List.getD_eq_getElem?_getD, List.getElem?_map, hv]
      rfl
    unfold shwP
    rw [H.ent he]
    show ((lastP (e.us.map Vw.p)).is, (lastP (e.us.map Vw.p)).zs) = _
    rw [hl]
    rfl
  · have hne : ∀ e ∈ es, e.k ≠ k := fun e he h => hm ⟨e, he, h⟩
    refine ⟨none, Vw.none, ⟨fun w' hb => find_none (H.below hb) hk hne, fun w' hb => now_nil w', Rd.nil _ _⟩, ?_, .inl ⟨rfl, ent_no hne⟩⟩
    unfold shwP
    rw [ent_no hne]
    rfl
set_option maxRecDepth 100000 in
set_option maxHeartbeats 8000000 in
theorem get_core {S0 : Value} {w : World} {k : Nm} {R : Nat → Prop} {p : Option Nat} {v : Vw} (H : Shows S0 w k R p v) :
    Calls Try.prog 26 #[S0, encStr k] w fun r w' => ∃ y : Bs, r = .returned (.tuple #[.slice y.A y.n y.c, .bool v.is]) ∧ y.zs = v.x.zs ∧ Mem.Own w' w.heap.size 5 .u8 (.slice y.A y.n y.c) v.x.zs ∧ Rd (fun b => w.heap.size ≤ b) w' y ∧ Below w.heap.size w w' := by
  have HRD := Lib.hid (fun (w' : World) (h : Below w.heap.size w w') => H.rd.keep (KeepsP.of_below (S := R) h))
  go_enter Try.func26, Try.ntmps26
  go_wp2_with fail
  refine (H.find w (Below.refl _ _)).mono ?_
  rintro r1 w1 ⟨rfl, rfl⟩
  go_wp2_with fail
  refine (H.now w (Below.refl _ _)).mono ?_
  rintro r2 u2 ⟨rfl, b2⟩
  go_wp2_with (first
    | (refine wpList_alloc_blk (w := u2) rfl 73 rfl #[.int .i64 0, .bool false, .slice none 0 0] (by kernel_rfl) ?_; intro u3 qu3 gu3 zu3; have bo3 : Below w.heap.size w u3 := b2.grown gu3 b2.size (by simp))
    | (refine wpList_store_blk (w := u3) rfl 73 _ _ rfl u2.heap.size 3 rfl 73 _ #[.int .i64 v.t, .bool v.is, .slice v.x.A v.x.n v.x.c] rfl qu3 (by kernel_rfl) rfl rfl (by kernel_rfl) ?_; intro u4 q4 g4 z4; have bo : Below w.heap.size w u4 := bo3.grown g4 bo3.size (fun r e => by cases e; exact b2.size); have hlt4 := q4.lt))
  refine wp_region_held (S := fun W => Below u4.heap.size u4 W) (by kernel_rfl) ?_
  change wpAnyH _ _ _ _ _ _ _ _ u4.drew
  have c0_0 := (Below.refl u4.heap.size u4).drew
  refine Held.tk (v := .pointer (some ⟨u2.heap.size, 2, none⟩)) 0 (some 11) rfl (Held.y_field (k := 2) (s := 0) rfl rfl Try.underlying73 rfl (by kernel_rfl) rfl) c0_0 ?_
  simp only [Act.put, Z1, Z2, Z3]
  refine Held.tk (v := .slice v.x.A v.x.n v.x.c) 1 (some 12) rfl (Held.y_load rfl rfl (by kernel_rfl) (fun W hW => (q4.below hW hlt4).cell rfl)) c0_0 ?_
  simp only [Act.put, Z1, Z2, Z3]
  refine Held.tk (v := .pointer (some ⟨u2.heap.size, 1, none⟩)) 3 (some 14) rfl (Held.y_field (k := 1) (s := 0) rfl rfl Try.underlying73 rfl (by kernel_rfl) rfl) c0_0 ?_
  simp only [Act.put, Z1, Z2, Z3]
  refine Held.tk (v := .bool v.is) 4 (some 15) rfl (Held.y_load rfl rfl (by kernel_rfl) (fun W hW => (q4.below hW hlt4).cell rfl)) c0_0 ?_
  simp only [Act.put, Z1, Z2, Z3]
  refine Held.one 2 (by kernel_rfl) ?_
  refine Held.op_call 2 (some 13) 40 #[.slice v.x.A v.x.n v.x.c] rfl rfl rfl rfl (enters_of Try.func40 (by kernel_rfl) rfl) (by simp [Act.eval])
    (copied_any (HRD.out _ (bo.trans (c0_0.mono bo.size)))) ?_
  rintro e w1 ⟨y, rfl, hyz, hyo, hy, b1⟩
  have c0_1 := c0_0.trans (b1.mono c0_0.size)
  refine ⟨_, rfl, c0_1, ?_⟩
  simp only [Act.put, Z1, Z2, Z3]
  refine Held.tk (v := .slice y.A y.n y.c) 5 (some 4) rfl (Held.y_assign rfl rfl) c0_1 ?_
  simp only [Act.put, Z1, Z2, Z3]
  refine Held.tk (v := .bool v.is) 6 (some 5) rfl (Held.y_assign rfl rfl) c0_1 ?_
  simp only [Act.put, Z1, Z2, Z3]
  refine wpAnyH_done (by kernel_rfl) ?_ _
  go_wp2_with fail
  go_ret2
  exact ⟨y, rfl, hyz, hyo.less (Nat.le_trans bo.size c0_0.size), hy.less (fun b hb _ => Nat.le_trans (Nat.le_trans bo.size c0_0.size) hb), bo.trans (c0_1.mono bo.size)⟩
theorem delete_no {S0 : Value} {w : World} {k : Nm} {R : Nat → Prop} {p : Option Nat} {v : Vw} (H : Shows S0 w k R p v) (hv : v.is = false) :
    Calls Try.prog 13 #[S0, encStr k] w fun r w' => r = .returned (.bool false) ∧ Below w.heap.size w w' := by
  obtain ⟨t, is, x⟩ := v
  obtain rfl : is = false := hv
  go_enter Try.func13, Try.ntmps13
  go_wp2_with fail
  refine (H.find w (Below.refl _ _)).mono ?_
  rintro r1 w1 ⟨rfl, rfl⟩
  go_wp2_with fail
  refine (H.now w (Below.refl _ _)).mono ?_
  rintro r2 u2 ⟨rfl, b2⟩
  go_wp2_with (refine Held.wpList_run (w := u2) rfl (Held.y_fieldv (S := fun _ => True) (k := 1) rfl rfl Try.underlying73 rfl (by kernel_rfl) rfl _ trivial) ?_)
  go_ret
  exact ⟨rfl, b2⟩
theorem Sto.writesCell {ow : Nat → Nat} {w w' : World} {s N : Nat} {W : Int} {es : List Ent} (H : Sto ow w s W N es) (hb : Below w.heap.size w w') : w'.cell? ⟨s, 1, none⟩ = some (.int .i64 W) := by
  obtain ⟨mv, hbs, _⟩ := H.blk
  exact (hbs.below hb hbs.lt).cell (i := 1) rfl
theorem Sto.wfW {ow : Nat → Nat} {w : World} {s N : Nat} {W : Int} {es : List Ent} (H : Sto ow w s W N es) (hN : N ≤ 1000000) : (Lit.int .i64 W).wf = true := by
  have := H.wf
  simp [Lit.wf, IntKind.min, IntKind.max, IntKind.signed, IntKind.bits]
  omega
theorem Sto.turned {ow : Nat → Nat} {w : World} {s N : Nat} {W : Int} {es : List Ent} (H : Sto ow w s W N es) {i : Nat} {e : Ent} (hi : es[i]? = some e) (t : Int) (v : Vw) : absL (es.set i { e with us := showC t v e.us }) = modP e.k (shwF t v.p) (absL es) :=
  abs_set (e' := { e with us := showC t v e.us }) (f := shwF t v.p) H.keys hi rfl (by simp [Ent.p, shwF, showC_abs])
set_option maxRecDepth 100000 in
set_option maxHeartbeats 8000000 in
theorem delete_yes {ow : Nat → Nat} {w : World} {s N : Nat} {W : Int} {es : List Ent} (H : Sto ow w s W N es) {i : Nat} {e : Ent} {v : Vw} {R : Nat → Prop} (HS : Shows (.pointer (some ⟨s, 0, none⟩)) w e.k R (some e.h) v) (hi : es[i]? = some e) (hv : v.is = true) (hN : N ≤ 1000000) :
    Calls Try.prog 13 #[.pointer (some ⟨s, 0, none⟩), encStr e.k] w fun r w' => r = .returned (.bool true) ∧ ∃ ow' es', Sto ow' w' s W (N + 1) es' ∧ Chg ow ow' w w' ∧ absL es' = modP e.k (shwF W Vp.none) (absL es) := by
  obtain ⟨t, is, x⟩ := v
  obtain rfl : is = true := hv
  have HWC := Lib.hid (fun (w' : World) (h : Below w.heap.size w w') => H.writesCell h)
  go_enter Try.func13, Try.ntmps13
  go_wp2_with fail
  refine (HS.find w (Below.refl _ _)).mono ?_
  rintro r1 w1 ⟨rfl, rfl⟩
  go_wp2_with fail
  refine (HS.now w (Below.refl _ _)).mono ?_
  rintro r2 u2 ⟨rfl, b2⟩
  have hcs := HWC.out u2 b2
  go_wp2_with (first
    | (refine Held.wpList_run (w := u2) rfl (Held.y_fieldv (S := fun _ => True) (k := 1) rfl rfl Try.underlying73 rfl (by kernel_rfl) rfl _ trivial) ?_)
    | (refine wpList_build_blk rfl 73 #[] rfl #[.int .i64 0, .bool false, .slice none 0 0] (by kernel_rfl) ?_))
  have H2 := H.below b2
  refine (show_any H2 hi (t := W) (v := Vw.none) (H.wfW hN) (Rd.nil _ _) hN).mono ?_
  rintro r3 u3 ⟨rfl, ow3, H3, C3⟩
  go_wp2_with fail
  go_ret
  exact ⟨rfl, ow3, _, H3, (Chg.below b2 ow).trans C3, H2.turned hi W Vw.none⟩
theorem Sto.free {ow : Nat → Nat} {w : World} {s N : Nat} {W : Int} {es : List Ent} (H : Sto ow w s W N es) {r : Nat} (hr : w.heap.size ≤ r) : ow r = 0 := by
  rcases Nat.eq_zero_or_pos (ow r) with h | h
  · exact h
  · have := H.low r (by omega); omega
set_option maxRecDepth 100000 in
set_option maxHeartbeats 8000000 in
theorem swap_no {S0 : Value} {w : World} {k k' : Nm} {R R' : Nat → Prop} {p p' : Option Nat} {v v' : Vw} (H : Shows S0 w k R p v) (H' : Shows S0 w k' R' p' v') (hv : v.is = false ∨ v'.is = false) :
    Calls Try.prog 11 #[S0, encStr k, encStr k'] w fun r w' => r = .returned (.bool false) ∧ Below w.heap.size w w' := by
  obtain ⟨t, is, x⟩ := v
  obtain ⟨t', is', x'⟩ := v'
  cases is
  · clear hv
    go_enter Try.func11, Try.ntmps11
    go_wp2_with fail
    refine (H.find w (Below.refl _ _)).mono ?_
    rintro r1 w1 ⟨rfl, rfl⟩
    go_wp2_with fail
    refine (H'.find w (Below.refl _ _)).mono ?_
    rintro r1 w1 ⟨rfl, rfl⟩
    go_wp2_with fail
    refine (H.now w (Below.refl _ _)).mono ?_
    rintro r2 u1 ⟨rfl, b1⟩
    go_wp2_with fail
    refine (H'.now u1 b1).mono ?_
    rintro r2 u2 ⟨rfl, b2⟩
    have bo := b1.trans (b2.mono b1.size)
    go_wp2_with (first
    | (refine wpList_alloc_blk (w := u2) rfl 73 rfl #[.int .i64 0, .bool false, .slice none 0 0] (by kernel_rfl) ?_; intro u3 qu3 gu3 zu3; have bo : Below w.heap.size w u3 := bo.grown gu3 bo.size (by simp))
    | (refine wpList_alloc_blk (w := u3) rfl 73 rfl #[.int .i64 0, .bool false, .slice none 0 0] (by kernel_rfl) ?_; intro u4 qu4 gu4 zu4; have bo : Below w.heap.size w u4 := bo.grown gu4 bo.size (by simp); have qu3 := qu3.grown gu4 (by simp))
    | (refine wpList_store_blk (w := u4) rfl 73 _ _ rfl u2.heap.size 3 rfl 73 _ #[.int .i64 t, .bool false, .slice x.A x.n x.c] rfl qu3 (by kernel_rfl) rfl rfl (by kernel_rfl) ?_; intro u5 qa g5 z5; have bo : Below w.heap.size w u5 := bo.grown g5 bo.size (fun r e => by cases e; exact Nat.le_trans b1.size b2.size); have qu4 := qu4.grown g5 (by intro e; injection e with e; have := zu3.out; omega))
    | (refine wpList_store_blk (w := u5) rfl 73 _ _ rfl u3.heap.size 3 rfl 73 _ #[.int .i64 t', .bool is', .slice x'.A x'.n x'.c] rfl qu4 (by kernel_rfl) rfl rfl (by kernel_rfl) ?_; intro u6 qb g6 z6; have bo : Below w.heap.size w u6 := bo.grown g6 bo.size (fun r e => by cases e; have := zu3.out; have := b1.size; have := b2.size; omega); have qa := Blk.grown qa g6 (by intro e; injection e with e; have := zu3.out; omega); have ha1 := qa.cell (i := 1) rfl; have hb1 := qb.cell (i := 1) rfl))
    go_ret
    exact ⟨rfl, bo⟩
  · obtain rfl : is' = false := hv.resolve_left (by simp)
    clear hv
    go_enter Try.func11, Try.ntmps11
    go_wp2_with fail
    refine (H.find w (Below.refl _ _)).mono ?_
    rintro r1 w1 ⟨rfl, rfl⟩
    go_wp2_with fail
    refine (H'.find w (Below.refl _ _)).mono ?_
    rintro r1 w1 ⟨rfl, rfl⟩
    go_wp2_with fail
    refine (H.now w (Below.refl _ _)).mono ?_
    rintro r2 u1 ⟨rfl, b1⟩
    go_wp2_with fail
    refine (H'.now u1 b1).mono ?_
    rintro r2 u2 ⟨rfl, b2⟩
    have bo := b1.trans (b2.mono b1.size)
    go_wp2_with (first
    | (refine wpList_alloc_blk (w := u2) rfl 73 rfl #[.int .i64 0, .bool false, .slice none 0 0] (by kernel_rfl) ?_; intro u3 qu3 gu3 zu3; have bo : Below w.heap.size w u3 := bo.grown gu3 bo.size (by simp))
    | (refine wpList_alloc_blk (w := u3) rfl 73 rfl #[.int .i64 0, .bool false, .slice none 0 0] (by kernel_rfl) ?_; intro u4 qu4 gu4 zu4; have bo : Below w.heap.size w u4 := bo.grown gu4 bo.size (by simp); have qu3 := qu3.grown gu4 (by simp))
    | (refine wpList_store_blk (w := u4) rfl 73 _ _ rfl u2.heap.size 3 rfl 73 _ #[.int .i64 t, .bool true, .slice x.A x.n x.c] rfl qu3 (by kernel_rfl) rfl rfl (by kernel_rfl) ?_; intro u5 qa g5 z5; have bo : Below w.heap.size w u5 := bo.grown g5 bo.size (fun r e => by cases e; exact Nat.le_trans b1.size b2.size); have qu4 := qu4.grown g5 (by intro e; injection e with e; have := zu3.out; omega))
    | (refine wpList_store_blk (w := u5) rfl 73 _ _ rfl u3.heap.size 3 rfl 73 _ #[.int .i64 t', .bool false, .slice x'.A x'.n x'.c] rfl qu4 (by kernel_rfl) rfl rfl (by kernel_rfl) ?_; intro u6 qb g6 z6; have bo : Below w.heap.size w u6 := bo.grown g6 bo.size (fun r e => by cases e; have := zu3.out; have := b1.size; have := b2.size; omega); have qa := Blk.grown qa g6 (by intro e; injection e with e; have := zu3.out; omega); have ha1 := qa.cell (i := 1) rfl; have hb1 := qb.cell (i := 1) rfl))
    go_ret
    exact ⟨rfl, bo⟩
set_option maxRecDepth 100000 in
set_option maxHeartbeats 8000000 in
theorem swap_yes {ow : Nat → Nat} {w : World} {s N : Nat} {W : Int} {es : List Ent} (H : Sto ow w s W N es) {i j : Nat} {e e' : Ent} {v v' : Vw} (HS : Shows (.pointer (some ⟨s, 0, none⟩)) w e.k (fun r => ow r = 1) (some e.h) v) (HS' : Shows (.pointer (some ⟨s, 0, none⟩)) w e'.k (fun r => ow r = 1) (some e'.h) v')
    (hi : es[i]? = some e) (hj : es[j]? = some e') (hv : v.is = true) (hv' : v'.is = true) (hN : N ≤ 900000) :
    Calls Try.prog 11 #[.pointer (some ⟨s, 0, none⟩), encStr e.k, encStr e'.k] w fun r w' => r = .returned (.bool true) ∧ ∃ ow' es', Sto ow' w' s W (N + 2) es' ∧ Chg ow ow' w w' ∧ absL es' = modP e'.k (shwF W v.p) (modP e.k (shwF W v'.p) (absL es)) := by
  obtain ⟨t, is, x⟩ := v
  obtain ⟨t', is', x'⟩ := v'
  obtain rfl : is = true := hv
  obtain rfl : is' = true := hv'
  have HWC := Lib.hid (fun (w' : World) (h : Below w.heap.size w w') => H.writesCell h)
  have hil := (List.getElem?_eq_some_iff.1 hi).1
  have HIJ := Lib.hid (And.intro hi hj)
  have HSH5 := Lib.hid (fun (u w' : World) (hu : Below w.heap.size w u) (h : Below u.heap.size u w') => show_any ((H.below hu).below h) hi (t := W) (v := ⟨t', true, x'⟩) (H.wfW (by omega)) ((HS'.rd.keep (KeepsP.of_below hu)).keep (KeepsP.of_below h)) (by omega))
  have HF := Lib.hid (fun (r : Nat) (hr : w.heap.size ≤ r) => H.free hr)
  have hsl := H.lt
  clear hi hj
  go_enter Try.func11, Try.ntmps11
  go_wp2_with fail
  refine (HS.find w (Below.refl _ _)).mono ?_
  rintro r1 w1 ⟨rfl, rfl⟩
  go_wp2_with fail
  refine (HS'.find w (Below.refl _ _)).mono ?_
  rintro r1 w1 ⟨rfl, rfl⟩
  go_wp2_with fail
  refine (HS.now w (Below.refl _ _)).mono ?_
  rintro r2 u1 ⟨rfl, b1⟩
  go_wp2_with fail
  refine (HS'.now u1 b1).mono ?_
  rintro r2 u2 ⟨rfl, b2⟩
  have bo := b1.trans (b2.mono b1.size)
  go_wp2_with (first
    | (refine wpList_alloc_blk (w := u2) rfl 73 rfl #[.int .i64 0, .bool false, .slice none 0 0] (by kernel_rfl) ?_; intro u3 qu3 gu3 zu3; have bo : Below w.heap.size w u3 := bo.grown gu3 bo.size (by simp))
    | (refine wpList_alloc_blk (w := u3) rfl 73 rfl #[.int .i64 0, .bool false, .slice none 0 0] (by kernel_rfl) ?_; intro u4 qu4 gu4 zu4; have bo : Below w.heap.size w u4 := bo.grown gu4 bo.size (by simp); have qu3 := qu3.grown gu4 (by simp))
    | (refine wpList_store_blk (w := u4) rfl 73 _ _ rfl u2.heap.size 3 rfl 73 _ #[.int .i64 t, .bool true, .slice x.A x.n x.c] rfl qu3 (by kernel_rfl) rfl rfl (by kernel_rfl) ?_; intro u5 qa g5 z5; have bo : Below w.heap.size w u5 := bo.grown g5 bo.size (fun r e => by cases e; exact Nat.le_trans b1.size b2.size); have qu4 := qu4.grown g5 (by intro e; injection e with e; have := zu3.out; omega))
    | (refine wpList_store_blk (w := u5) rfl 73 _ _ rfl u3.heap.size 3 rfl 73 _ #[.int .i64 t', .bool true, .slice x'.A x'.n x'.c] rfl qu4 (by kernel_rfl) rfl rfl (by kernel_rfl) ?_; intro u6 qb g6 z6; have bo : Below w.heap.size w u6 := bo.grown g6 bo.size (fun r e => by cases e; have := zu3.out; have := b1.size; have := b2.size; omega); have qa := Blk.grown qa g6 (by intro e; injection e with e; have := zu3.out; omega); have ha1 := qa.cell (i := 1) rfl; have hb1 := qb.cell (i := 1) rfl))
  go_wp2_with fail
  have hlt5 := qa.lt
  have hlt6 := qb.lt
  have hcs6 := HWC.out u6 bo
  have hsl6 : s < u6.heap.size := Nat.lt_of_lt_of_le hsl bo.size
  have HSH5 := Lib.hid (HSH5.out u6)
  have HSH5 := Lib.hid (fun (w' : World) => HSH5.out w' bo)
  refine wp_region_bar (T := fun W => Below u6.heap.size u6 W) (s := 6) (by kernel_rfl) ?_
  change wpAnyB _ _ _ _ _ _ _ _ _ u6.drew
  have T0 : Below u6.heap.size u6 u6.drew := (Below.refl _ _).drew
  refine Held.takeB (v := .pointer (some ⟨e.h, 0, none⟩)) 0 (some 29) [6] rfl rfl (by kernel_rfl) (by kernel_rfl) (by kernel_rfl) (by kernel_rfl) (fun _ _ _ h => h) rfl (Held.y_move rfl rfl) T0 ?_
  simp only [Act.put, Z1, Z2, Z3]
  refine Held.takeB (v := .pointer (some ⟨s, 0, none⟩)) 1 (some 30) [2, 3, 4, 6] rfl rfl (by kernel_rfl) (by kernel_rfl) (by kernel_rfl) (by kernel_rfl) (fun _ _ _ h => h) rfl (Held.y_move rfl rfl) T0 ?_
  simp only [Act.put, Z1, Z2, Z3]
  refine Held.takeB (v := .pointer (some ⟨s, 0, none⟩)) 2 (some 31) [3, 4, 6] rfl rfl (by kernel_rfl) (by kernel_rfl) (by kernel_rfl) (by kernel_rfl) (fun _ _ _ h => h) rfl (Sl.y_nil rfl rfl) T0 ?_
  simp only [Act.put, Z1, Z2, Z3]
  refine Held.takeB (v := .pointer (some ⟨s, 1, none⟩)) 3 (some 32) [4, 6] rfl rfl (by kernel_rfl) (by kernel_rfl) (by kernel_rfl) (by kernel_rfl) (fun _ _ _ h => h) rfl (Held.y_field (k := 1) (s := 0) rfl rfl Try.underlying64 rfl (by kernel_rfl) rfl) T0 ?_
  simp only [Act.put, Z1, Z2, Z3]
  refine Held.takeB (v := .int .i64 W) 4 (some 33) [6] rfl rfl (by kernel_rfl) (by kernel_rfl) (by kernel_rfl) (by kernel_rfl) (fun _ _ _ h => h) rfl (Held.y_load rfl rfl (by kernel_rfl) (fun W hW => (hW.cell (p := ⟨s, 1, none⟩) hsl6).trans hcs6)) T0 ?_
  simp only [Act.put, Z1, Z2, Z3]
  refine Held.takeB (v := .agg #[.int .i64 t', .bool true, .slice x'.A x'.n x'.c]) 5 (some 34) [6] rfl rfl (by kernel_rfl) (by kernel_rfl) (by kernel_rfl) (by kernel_rfl) (fun _ _ _ h => h) rfl (Held.y_load_blk (n := 3) rfl rfl Try.underlying73 rfl (by kernel_rfl) rfl (fun W hW => qb.below hW hlt6)) T0 ?_
  simp only [Act.put, Z1, Z2, Z3]
  refine Held.oneB 6 (by kernel_rfl) ?_
  refine Held.op_call 6 (some 35) 33 #[.pointer (some ⟨e.h, 0, none⟩), .int .i64 W, .agg #[.int .i64 t', .bool true, .slice x'.A x'.n x'.c]] rfl rfl rfl rfl (enters_of Try.func33 (by kernel_rfl) rfl) (by simp [Act.eval])
    (HSH5.out _ T0) ?_
  rintro r2 w2 ⟨rfl, ow2, H2, C2⟩
  refine ⟨_, rfl, fun h => (by cases h.symm.trans (show _ = true by kernel_rfl)), ?_⟩
  simp only [Act.put, Z1, Z2, Z3]
  refine Held.doneB (by kernel_rfl) ?_ _
  have hdr := (Below.refl u6.heap.size u6).drew
  have h5 : Blk w2 u2.heap.size 73 #[.int .i64 t, .bool true, .slice x.A x.n x.c] := C2.keep.block _ _ (by show ow _ ≤ 1; rw [HF.out _ (Nat.le_trans b1.size b2.size)]; omega) (qa.below hdr hlt5)
  have hcs7 := H2.writesCell (Below.refl _ _)
  have hsl7 := H2.lt
  have hlt7 := h5.lt
  obtain ⟨hi, hj⟩ := HIJ.out
  obtain ⟨e2, hj2, hh2, hk2⟩ : ∃ e2 : Ent, (es.set i { e with us := showC W ⟨t', true, x'⟩ e.us })[j]? = some e2 ∧ e2.h = e'.h ∧ e2.k = e'.k := by
    rw [List.getElem?_set]
    by_cases hij : i = j
    · subst hij
      rw [if_pos rfl, if_pos hil]
      rw [hi] at hj
      injection hj with hj
      exact ⟨_, rfl, by rw [← hj], by rw [← hj]⟩
    · rw [if_neg hij]
      exact ⟨e', hj, rfl, rfl⟩
  have HTT := Lib.hid (And.intro (H.turned hi W ⟨t', true, x'⟩) (H2.turned hj2 W ⟨t, true, x⟩))
  have HSH := Lib.hid (fun (w' : World) (h : Below w2.heap.size w2 w') => show_any (H2.below h) hj2 (t := W) (v := ⟨t, true, x⟩) (H.wfW (by omega)) (((C2.rd ((H.below bo).below hdr).low ((HS.rd.keep (KeepsP.of_below bo)).keep (KeepsP.of_below hdr)))).keep (KeepsP.of_below h)) (by omega))
  rw [hh2] at HSH HTT
  clear hi hj hj2
  go_wp2_with fail
  refine wp_region_bar (T := fun W => Below w2.heap.size w2 W) (s := 6) (by kernel_rfl) ?_
  change wpAnyB _ _ _ _ _ _ _ _ _ w2.drew
  have T0 : Below w2.heap.size w2 w2.drew := (Below.refl _ _).drew
  refine Held.takeB (v := .pointer (some ⟨e'.h, 0, none⟩)) 0 (some 36) [6] rfl rfl (by kernel_rfl) (by kernel_rfl) (by kernel_rfl) (by kernel_rfl) (fun _ _ _ h => h) rfl (Held.y_move rfl rfl) T0 ?_
  simp only [Act.put, Z1, Z2, Z3]
  refine Held.takeB (v := .pointer (some ⟨s, 0, none⟩)) 1 (some 37) [2, 3, 4, 6] rfl rfl (by kernel_rfl) (by kernel_rfl) (by kernel_rfl) (by kernel_rfl) (fun _ _ _ h => h) rfl (Held.y_move rfl rfl) T0 ?_
  simp only [Act.put, Z1, Z2, Z3]
  refine Held.takeB (v := .pointer (some ⟨s, 0, none⟩)) 2 (some 38) [3, 4, 6] rfl rfl (by kernel_rfl) (by kernel_rfl) (by kernel_rfl) (by kernel_rfl) (fun _ _ _ h => h) rfl (Sl.y_nil rfl rfl) T0 ?_
  simp only [Act.put, Z1, Z2, Z3]
  refine Held.takeB (v := .pointer (some ⟨s, 1, none⟩)) 3 (some 39) [4, 6] rfl rfl (by kernel_rfl) (by kernel_rfl) (by kernel_rfl) (by kernel_rfl) (fun _ _ _ h => h) rfl (Held.y_field (k := 1) (s := 0) rfl rfl Try.underlying64 rfl (by kernel_rfl) rfl) T0 ?_
  simp only [Act.put, Z1, Z2, Z3]
  refine Held.takeB (v := .int .i64 W) 4 (some 40) [6] rfl rfl (by kernel_rfl) (by kernel_rfl) (by kernel_rfl) (by kernel_rfl) (fun _ _ _ h => h) rfl (Held.y_load rfl rfl (by kernel_rfl) (fun W hW => (hW.cell (p := ⟨s, 1, none⟩) hsl7).trans hcs7)) T0 ?_
  simp only [Act.put, Z1, Z2, Z3]
  refine Held.takeB (v := .agg #[.int .i64 t, .bool true, .slice x.A x.n x.c]) 5 (some 41) [6] rfl rfl (by kernel_rfl) (by kernel_rfl) (by kernel_rfl) (by kernel_rfl) (fun _ _ _ h => h) rfl (Held.y_load_blk (n := 3) rfl rfl Try.underlying73 rfl (by kernel_rfl) rfl (fun W hW => h5.below hW hlt7)) T0 ?_
  simp only [Act.put, Z1, Z2, Z3]
  refine Held.oneB 6 (by kernel_rfl) ?_
  refine Held.op_call 6 (some 42) 33 #[.pointer (some ⟨e'.h, 0, none⟩), .int .i64 W, .agg #[.int .i64 t, .bool true, .slice x.A x.n x.c]] rfl rfl rfl rfl (enters_of Try.func33 (by kernel_rfl) rfl) (by simp [Act.eval])
    (HSH.out _ T0) ?_
  rintro r2 w3 ⟨rfl, ow3, H3, C3⟩
  refine ⟨_, rfl, fun h => (by cases h.symm.trans (show _ = true by kernel_rfl)), ?_⟩
  simp only [Act.put, Z1, Z2, Z3]
  refine Held.doneB (by kernel_rfl) ?_ _
  go_wp2_with fail
  go_ret
  obtain ⟨T1, T2⟩ := HTT.out
  refine ⟨rfl, ow3, _, H3, (Chg.below (bo.trans (hdr.mono bo.size)) ow).trans (C2.trans ((Chg.below ((Below.refl _ _).drew) ow2).trans C3)), ?_⟩
  rw [T2, T1, hk2]
theorem replay_no {S0 : Value} {w : World} {k : Nm} {n c : Int} (H : Calls Try.prog 29 #[S0, encStr k] w fun r w' => r = .returned (.int .i64 c) ∧ w = w') (hn : n < 0 ∨ c ≤ n) :
    Calls Try.prog 9 #[S0, encStr k, .int .i64 n] w fun r w' => r = .returned (.bool false) ∧ w = w' := by
  by_cases h0 : n < 0
  · clear hn
    go_enter Try.func9, Try.ntmps9
    go_wp2_with fail
    go_ret
    exact ⟨rfl, rfl⟩
  · have h1 : c ≤ n := hn.resolve_left h0
    have HG := Lib.hid (show decide (c ≤ n) = true from decide_eq_true h1)
    clear hn h1
    go_enter Try.func9, Try.ntmps9
    go_wp2_with fail
    refine H.mono ?_
    rintro r1 w1 ⟨rfl, rfl⟩
    go_wp2_with (refine Held.wpList_run (w := w) rfl (v := .bool true) (y_geqI (S := fun _ => True) _ _ rfl rfl rfl HG.out _ trivial) ?_)
    go_ret
    exact ⟨rfl, rfl⟩
set_option maxRecDepth 100000 in
set_option maxHeartbeats 8000000 in
theorem replay_yes {ow : Nat → Nat} {w : World} {s N : Nat} {W : Int} {es : List Ent} (H : Sto ow w s W N es) {i m : Nat} {e : Ent} {x : Bs} (hi : es[i]? = some e) (hx : e.vs[m]? = some x) (hN : N ≤ 900000) :
    Calls Try.prog 9 #[.pointer (some ⟨s, 0, none⟩), encStr e.k, .int .i64 (m : Int)] w fun r w' => r = .returned (.bool true) ∧ ∃ ow' es', Sto ow' w' s W (N + 1) es' ∧ Chg ow ow' w w' ∧ absL es' = modP e.k (shwF W ⟨0, true, x.zs⟩) (absL es) := by
  have hm := List.mem_of_getElem? hi
  have hml := (List.getElem?_eq_some_iff.1 hx).1
  obtain ⟨_, vv, ww, hb, hv, _, _⟩ := H.hist e hm
  obtain ⟨A, n, c, rfl, hn, hnc, _⟩ := hv.form2
  obtain ⟨g, rfl, hn2⟩ := own_some hv (by omega)
  have hd : e.vs.getD m kB.d = x := by rw [List.getD_eq_getElem?_getD, hx]; rfl
  have HR := own_range hv (i := m) hml
  rw [hd] at HR
  have hgl : g < w.heap.size := (OwnL.lt hv g rfl).2
  have hcell := Lib.hid (show w.cell? ⟨g, 0 + m * 1, none⟩ = some (.slice x.A x.n x.c) from HR 0 _ rfl)
  have hmn : m < n := by omega
  have HG := Lib.hid (show decide ((n : Int) ≤ (m : Int)) = false by simp; omega)
  have HX := Lib.hid ((H.bytes e hm).vs x (List.mem_of_getElem? hx))
  have hlt := hb.lt
  have HV := Lib.hid (versions_some H hm)
  rw [hn.out] at HV
  have hcs := H.writesCell (Below.refl _ _)
  have hsl := H.lt
  have HI := Lib.hid hi
  have m0 : ¬ ((m : Int) < 0) := by omega
  clear hv hn hn2 hd HR hx hml hi
  go_enter Try.func9, Try.ntmps9
  go_wp2_with fail
  refine HV.out.mono ?_
  rintro r1 w1 ⟨rfl, rfl⟩
  go_wp2_with (refine Held.wpList_run (w := w) rfl (v := .bool false) (y_geqI (S := fun _ => True) _ _ rfl rfl rfl HG.out _ trivial) ?_)
  refine (find_some H hm).mono ?_
  rintro r1 w1 ⟨rfl, rfl⟩
  go_wp2_with fail
  refine wp_region_bar (T := fun W => Below w.heap.size w W) (s := 13) (by kernel_rfl) ?_
  change wpAnyB _ _ _ _ _ _ _ _ _ w.drew
  have T0 : Below w.heap.size w w.drew := (Below.refl _ _).drew
  refine Held.takeB (v := .pointer (some ⟨e.h, 0, none⟩)) 0 (some 20) [13] rfl rfl (by kernel_rfl) (by kernel_rfl) (by kernel_rfl) (by kernel_rfl) (fun _ _ _ h => h) rfl (Held.y_move rfl rfl) T0 ?_
  simp only [Act.put, Z1, Z2, Z3]
  refine Held.takeB (v := .pointer (some ⟨s, 0, none⟩)) 1 (some 21) [2, 3, 4, 13] rfl rfl (by kernel_rfl) (by kernel_rfl) (by kernel_rfl) (by kernel_rfl) (fun _ _ _ h => h) rfl (Held.y_move rfl rfl) T0 ?_
  simp only [Act.put, Z1, Z2, Z3]
  refine Held.takeB (v := .pointer (some ⟨s, 0, none⟩)) 2 (some 22) [3, 4, 13] rfl rfl (by kernel_rfl) (by kernel_rfl) (by kernel_rfl) (by kernel_rfl) (fun _ _ _ h => h) rfl (Sl.y_nil rfl rfl) T0 ?_
  simp only [Act.put, Z1, Z2, Z3]
  refine Held.takeB (v := .pointer (some ⟨s, 1, none⟩)) 3 (some 23) [4, 13] rfl rfl (by kernel_rfl) (by kernel_rfl) (by kernel_rfl) (by kernel_rfl) (fun _ _ _ h => h) rfl (Held.y_field (k := 1) (s := 0) rfl rfl Try.underlying64 rfl (by kernel_rfl) rfl) T0 ?_
  simp only [Act.put, Z1, Z2, Z3]
  refine Held.takeB (v := .int .i64 W) 4 (some 24) [13] rfl rfl (by kernel_rfl) (by kernel_rfl) (by kernel_rfl) (by kernel_rfl) (fun _ _ _ h => h) rfl (Held.y_load rfl rfl (by kernel_rfl) (fun W hW => (hW.cell (p := ⟨s, 1, none⟩) hsl).trans hcs)) T0 ?_
  simp only [Act.put, Z1, Z2, Z3]
  refine Held.takeB (v := .pointer (some ⟨e.h, 0, none⟩)) 5 (some 25) [6, 7, 8, 10, 11, 12, 13] rfl rfl (by kernel_rfl) (by kernel_rfl) (by kernel_rfl) (by kernel_rfl) (fun _ _ _ h => h) rfl (Held.y_move rfl rfl) T0 ?_
  simp only [Act.put, Z1, Z2, Z3]
  refine Held.takeB (v := .pointer (some ⟨e.h, 0, none⟩)) 6 (some 26) [7, 8, 10, 11, 12, 13] rfl rfl (by kernel_rfl) (by kernel_rfl) (by kernel_rfl) (by kernel_rfl) (fun _ _ _ h => h) rfl (Sl.y_nil rfl rfl) T0 ?_
  simp only [Act.put, Z1, Z2, Z3]
  refine Held.takeB (v := .pointer (some ⟨e.h, 0, none⟩)) 7 (some 27) [8, 10, 11, 12, 13] rfl rfl (by kernel_rfl) (by kernel_rfl) (by kernel_rfl) (by kernel_rfl) (fun _ _ _ h => h) rfl (Held.y_field (k := 0) (s := 0) rfl rfl Try.underlying71 rfl (by kernel_rfl) rfl) T0 ?_
  simp only [Act.put, Z1, Z2, Z3]
  refine Held.takeB (v := .slice (some ⟨g, 0, none⟩) n c) 8 (some 28) [10, 11, 12, 13] rfl rfl (by kernel_rfl) (by kernel_rfl) (by kernel_rfl) (by kernel_rfl) (fun _ _ _ h => h) rfl (Held.y_load rfl rfl (by kernel_rfl) (fun W hW => (hb.below hW hlt).cell rfl)) T0 ?_
  simp only [Act.put, Z1, Z2, Z3]
  refine Held.takeB (v := .int .i64 (m : Int)) 9 (some 29) [10, 11, 12, 13] rfl rfl (by kernel_rfl) (by kernel_rfl) (by kernel_rfl) (by kernel_rfl) (fun _ _ _ h => h) rfl (Held.y_move rfl rfl) T0 ?_
  simp only [Act.put, Z1, Z2, Z3]
  refine Held.takeB (v := .pointer (some ⟨g, 0 + m * 1, none⟩)) 10 (some 30) [11, 12, 13] rfl rfl (by kernel_rfl) (by kernel_rfl) (by kernel_rfl) (by kernel_rfl) (fun _ _ _ h => h) rfl (Held.y_addr rfl rfl rfl (fun W => Rs.run_addr_of (P := Try.prog) 68 31 g 0 n c m 1 .i64 Try.underlying68 (by kernel_rfl) (hmn) W)) T0 ?_
  simp only [Act.put, Z1, Z2, Z3]
  refine Held.takeB (v := .slice x.A x.n x.c) 11 (some 31) [12, 13] rfl rfl (by kernel_rfl) (by kernel_rfl) (by kernel_rfl) (by kernel_rfl) (fun _ _ _ h => h) rfl (Held.y_load rfl rfl (by kernel_rfl) (fun W hW => (hW.cell (p := ⟨g, 0 + m * 1, none⟩) hgl).trans hcell.out)) T0 ?_
  simp only [Act.put, Z1, Z2, Z3]
  refine Held.takeB (v := .agg #[.int .i64 0, .bool true, .slice x.A x.n x.c]) 12 (some 32) [13] rfl rfl (by kernel_rfl) (by kernel_rfl) (by kernel_rfl) (by kernel_rfl) (fun _ _ _ h => h) rfl (Held.y_build rfl (by kernel_rfl)) T0 ?_
  simp only [Act.put, Z1, Z2, Z3]
  refine Held.oneB 13 (by kernel_rfl) ?_
  refine Held.op_call 13 (some 33) 33 #[.pointer (some ⟨e.h, 0, none⟩), .int .i64 W, .agg #[.int .i64 0, .bool true, .slice x.A x.n x.c]] rfl rfl rfl rfl (enters_of Try.func33 (by kernel_rfl) rfl) (by simp [Act.eval])
    (show_any (H.below T0) HI.out (t := W) (v := ⟨0, true, x⟩) (H.wfW (by omega)) (HX.out.keep (KeepsP.of_below T0)) (by omega)) ?_
  rintro r2 w2 ⟨rfl, ow2, H2, C2⟩
  refine ⟨_, rfl, fun h => (by cases h.symm.trans (show _ = true by kernel_rfl)), ?_⟩
  simp only [Act.put, Z1, Z2, Z3]
  refine Held.doneB (by kernel_rfl) ?_ _
  go_wp2_with fail
  go_ret
  exact ⟨rfl, ow2, _, H2, (Chg.below ((Below.refl _ _).drew) ow).trans C2, H.turned HI.out W ⟨0, true, x⟩⟩
end Go.Proofs.Ytbippmbcgkicaaa.Sto
namespace Go.Proofs.Ytbippmbcgkicaaa.Sto
open Go.RowKit Go.Shelf Go.Proofs.Ytbippmbcgkicaaa Mem Held Sl Go.Proofs.Ytbippmbcgkicaaa.Range
attribute [local irreducible] wpList wpListIn Calls
section
variable {P : Program} {S : World → Prop} {ρ : Operand → Value} {o : Oper}
theorem y_quoI (a b : Int) {t ty : TypeId} {x y : Operand} {k : IntKind} {r : Int} (ho : o.op = .binOp .quo t x y ty) (hx : ρ x = .int k a) (hy : ρ y = .int k b) (hb : b ≠ 0) (hr : k.wrap (a.tdiv b) = r) : ∀ w, S w → (execOp ρ o).run P w = .ok (.value (.int k r)) w := Held.y_int ho hx hy (Held.run_quo t k hb hr)
theorem y_remI (a b : Int) {t ty : TypeId} {x y : Operand} {k : IntKind} {r : Int} (ho : o.op = .binOp .rem t x y ty) (hx : ρ x = .int k a) (hy : ρ y = .int k b) (hb : b ≠ 0) (hr : a.tmod b = r) : ∀ w, S w → (execOp ρ o).run P w = .ok (.value (.int k r)) w := Held.y_int ho hx hy (Held.run_rem t k hb hr)
end
section
variable {P : Program} {ops : Array Oper} {Q : Exit → Act → World → Prop} {o : Oper} {a : Act} {w : World}
theorem op_store_Own (i : Nat) (d : Option Tmp) {K : Act → World → Prop} (ty : TypeId) {x y : Operand} (base g n c off j : Nat) (z : Int) (t : TypeId) (k : IntKind) {zs : List Int} (hi : ops[i]? = some o) (hd : o.dst = d) (hw : Region.wanted o (yielded ops a.tmps) = true)
    (ho : o.op = .store ty x y) (hx : a.eval x = .pointer (some ⟨g, off, none⟩)) (hoff : off = j) (hy : a.eval y = .int k z) (hsz : (P.info? ty).map (·.size) = some 1) (hown : Mem.Own w base t k (.slice (some ⟨g, 0, none⟩) n c) zs) (hj : j < zs.length) (hz : (Lit.int k z).wf = true)
    (h : ∀ w', Mem.Own w' base t k (.slice (some ⟨g, 0, none⟩) n c) (zs.set j z) → w.grownBy w' (some g) → K (a.put d undef) w') : wpOp P ops Q i K a w := by
  subst hd
  subst hoff
  obtain ⟨g', c', e, _, _, _, _, hc, hf⟩ := hown.at_ (by omega)
  injection e with e1 e2 e3
  injection e1 with e1
  injection e1 with e1
  subst e1
  subst e2
  refine op_wp i hi hw ?_
  unfold Oper.wp execOp
  simp only [ho, hx, hy, Instr.storeAt, Instr.sureAddr, Sem.run_bind, Sem.run_pure, Result.andThen_ok, run_store_elem ty g off _ (.int k z) (hc off hj) (hf off) hsz rfl rfl]
  exact h _ (hown.set off hz) (grown_setCell _ _ _ _)
end
section
variable {P : Program} {ops : Array Oper} {rest : List Oper} {o : Oper} {a : Act} {w : World} {Q : Exit → Act → World → Prop}
theorem wpList_build_row1 (hgd : o.guard = none) (ts e : TypeId) (n : Nat) (parts : Array (Nat × Operand)) (ho : o.op = .buildSlice ts n parts) (hu : P.underlying ts = some (.slice e)) (k : IntKind) (bytes : Nat) (hinfo : (P.info? e).map (fun i => (i.zero, i.size, i.bytes)) = some (some (.int k 0), 1, bytes))
    (zs : List Int) (hn : zs.length = n) (hp : (parts.map fun (i, x) => (i, a.eval x)).toList = ((zs.map (Value.int k)).zipIdx 0).map fun x => (x.2, x.1)) (hwf : ∀ z ∈ zs, (Lit.int k z).wf = true) (h0 : 0 < n) (h24 : n ≤ 16777216)
    (h : ∀ w', Row w' w.heap.size e k zs → w.grownBy w' none → Hid (w'.heap.size = w.heap.size + 1) → wpList P ops Q rest (a.put o.dst (.slice (some ⟨w.heap.size, 0, none⟩) n n)) w') : wpList P ops Q (o :: rest) a w := by
  obtain ⟨ie, hie, hz0, hs, hb⟩ := info_parts hinfo
  refine Go.wpList_buildSlice hgd ts e n parts ho (arr k zs) ie _ hu hie hz0 (by rw [hs]; omega) (by rw [hs]; omega) ?_ (h _ ⟨hwf, heap_alloc_new w _⟩ (World.grownBy_alloc w _ none) (Lib.hid (by simp)))
  rw [hp, hs]
  exact Go.Great.fill_flat (zs.map (Value.int k)) _ (fun v hv => by obtain ⟨z, _, rfl⟩ := List.mem_map.1 hv; rfl) (by simp [hn])
end
def turnZ (z : Int) (m : Nat) : Int := bits .xor .u8 z (IntKind.u8.wrap (1 * 2 ^ m))
def flipZ (zs : List Int) (b : Nat) : List Int := zs.set (b / 8) (turnZ (zs.getD (b / 8) 0) (b % 8))
set_option maxRecDepth 100000 in
set_option maxHeartbeats 8000000 in
theorem flip_no {S0 : Value} {w : World} {k : Nm} {bit : Int} {R : Nat → Prop} {p : Option Nat} {v : Vw} (H : Shows S0 w k R p v) (hw : (Lit.int .i64 bit).wf = true) (hb : bit < 0 ∨ (v.x.n : Int) ≤ bit / 8) :
    Calls Try.prog 17 #[S0, encStr k, .int .i64 bit] w fun r w' => r = .returned (.bool false) ∧ Below w.heap.size w w' := by
  have hbw := wf_i64 hw
  clear hw
  by_cases h0 : bit < 0
  · clear hb
    go_enter Try.func17, Try.ntmps17
    go_wp2_with fail
    refine (H.find w (Below.refl _ _)).mono ?_
    rintro r1 w1 ⟨rfl, rfl⟩
    go_wp2_with fail
    refine (H.now w (Below.refl _ _)).mono ?_
    rintro r2 u2 ⟨rfl, b2⟩
    go_wp2_with (first
      | (refine wpList_alloc_blk (w := u2) rfl 73 rfl #[.int .i64 0, .bool false, .slice none 0 0] (by kernel_rfl) ?_; intro u3 qu3 gu3 zu3; have bo3 : Below w.heap.size w u3 := b2.grown gu3 b2.size (by simp))
      | (refine wpList_store_blk (w := u3) rfl 73 _ _ rfl u2.heap.size 3 rfl 73 _ #[.int .i64 v.t, .bool v.is, .slice v.x.A v.x.n v.x.c] rfl qu3 (by kernel_rfl) rfl rfl (by kernel_rfl) ?_; intro u4 q4 g4 z4; have bo : Below w.heap.size w u4 := bo3.grown g4 bo3.size (fun r e => by cases e; exact b2.size); have hlt4 := q4.lt; have hcx := q4.cell (i := 2) rfl))
    go_ret
    exact ⟨rfl, bo⟩
  · obtain ⟨b, rfl⟩ : ∃ b : Nat, bit = (b : Int) := ⟨bit.toNat, by omega⟩
    have h1 := hb.resolve_left h0
    have HQ := Lib.hid (show IntKind.i64.wrap ((b : Int).tdiv 8) = ((b / 8 : Nat) : Int) by rw [Int.tdiv_eq_ediv_of_nonneg (by omega)]; simp [IntKind.wrap_i64]; omega)
    have HG := Lib.hid (show decide ((v.x.n : Int) ≤ ((b / 8 : Nat) : Int)) = true by simp; omega)
    clear hb h1 hbw
    go_enter Try.func17, Try.ntmps17
    go_wp2_with fail
    refine (H.find w (Below.refl _ _)).mono ?_
    rintro r1 w1 ⟨rfl, rfl⟩
    go_wp2_with fail
    refine (H.now w (Below.refl _ _)).mono ?_
    rintro r2 u2 ⟨rfl, b2⟩
    go_wp2_with (first
      | (refine wpList_alloc_blk (w := u2) rfl 73 rfl #[.int .i64 0, .bool false, .slice none 0 0] (by kernel_rfl) ?_; intro u3 qu3 gu3 zu3; have bo3 : Below w.heap.size w u3 := b2.grown gu3 b2.size (by simp))
      | (refine wpList_store_blk (w := u3) rfl 73 _ _ rfl u2.heap.size 3 rfl 73 _ #[.int .i64 v.t, .bool v.is, .slice v.x.A v.x.n v.x.c] rfl qu3 (by kernel_rfl) rfl rfl (by kernel_rfl) ?_; intro u4 q4 g4 z4; have bo : Below w.heap.size w u4 := bo3.grown g4 bo3.size (fun r e => by cases e; exact b2.size); have hlt4 := q4.lt; have hcx := q4.cell (i := 2) rfl)
      | (refine Held.wpList_run (w := u4) rfl (v := .int .i64 ((b / 8 : Nat) : Int)) (y_quoI (S := fun _ => True) _ _ rfl rfl rfl (by decide) HQ.out _ trivial) ?_)
      | (refine Held.wpList_run (w := u4) rfl (v := .bool true) (y_geqI (S := fun _ => True) _ _ rfl rfl rfl HG.out _ trivial) ?_))
    go_ret
    exact ⟨rfl, bo⟩
set_option maxRecDepth 100000 in
set_option maxHeartbeats 16000000 in
theorem flip_yes {ow : Nat → Nat} {w : World} {s N : Nat} {W : Int} {es : List Ent} (H : Sto ow w s W N es) {i b : Nat} {e : Ent} {v : Vw} (HS : Shows (.pointer (some ⟨s, 0, none⟩)) w e.k (fun r => ow r = 1) (some e.h) v) (hi : es[i]? = some e) (hw : (Lit.int .i64 (b : Int)).wf = true) (hb : b / 8 < v.x.n) (hN : N ≤ 1000000) :
    Calls Try.prog 17 #[.pointer (some ⟨s, 0, none⟩), encStr e.k, .int .i64 (b : Int)] w fun r w' => r = .returned (.bool true) ∧ ∃ ow' es', Sto ow' w' s W (N + 1) es' ∧ Chg ow ow' w w' ∧ absL es' = modP e.k (shwF W ⟨0, true, flipZ v.x.zs b⟩) (absL es) := by
  have hbw := wf_i64 hw
  have HQ := Lib.hid (show IntKind.i64.wrap ((b : Int).tdiv 8) = ((b / 8 : Nat) : Int) by rw [Int.tdiv_eq_ediv_of_nonneg (by omega)]; simp [IntKind.wrap_i64]; omega)
  have HG := Lib.hid (show decide ((v.x.n : Int) ≤ ((b / 8 : Nat) : Int)) = false by simp; omega)
  have HR := Lib.hid (show (b : Int).tmod 8 = ((b % 8 : Nat) : Int) by rw [Int.tmod_eq_emod_of_nonneg (by omega)]; omega)
  have HRD := Lib.hid (fun (w' : World) (h : Below w.heap.size w w') => HS.rd.keep (KeepsP.of_below (S := fun r => ow r = 1) h))
  have m0 : ¬ ((b : Int) < 0) := by omega
  have HQL := Lib.hid hb
  clear hbw hw hb
  go_enter Try.func17, Try.ntmps17
  go_wp2_with fail
  refine (HS.find w (Below.refl _ _)).mono ?_
  rintro r1 w1 ⟨rfl, rfl⟩
  go_wp2_with fail
  refine (HS.now w (Below.refl _ _)).mono ?_
  rintro r2 u2 ⟨rfl, b2⟩
  go_wp2_with (first
    | (refine wpList_alloc_blk (w := u2) rfl 73 rfl #[.int .i64 0, .bool false, .slice none 0 0] (by kernel_rfl) ?_; intro u3 qu3 gu3 zu3; have bo3 : Below w.heap.size w u3 := b2.grown gu3 b2.size (by simp))
    | (refine wpList_store_blk (w := u3) rfl 73 _ _ rfl u2.heap.size 3 rfl 73 _ #[.int .i64 v.t, .bool v.is, .slice v.x.A v.x.n v.x.c] rfl qu3 (by kernel_rfl) rfl rfl (by kernel_rfl) ?_; intro u4 q4 g4 z4; have bo : Below w.heap.size w u4 := bo3.grown g4 bo3.size (fun r e => by cases e; exact b2.size); have hlt4 := q4.lt; have hcx := q4.cell (i := 2) rfl)
    | (refine Held.wpList_run (w := u4) rfl (v := .int .i64 ((b / 8 : Nat) : Int)) (y_quoI (S := fun _ => True) _ _ rfl rfl rfl (by decide) HQ.out _ trivial) ?_)
    | (refine Held.wpList_run (w := u4) rfl (v := .bool false) (y_geqI (S := fun _ => True) _ _ rfl rfl rfl HG.out _ trivial) ?_))
  refine (copied_any (HRD.out u4 bo)).mono ?_
  rintro r3 u5 ⟨y, rfl, hyz, hyo, hyr, b5⟩
  obtain ⟨A, n, c, zs⟩ := y
  simp only at hyz hyo ⊢
  have hln := hyr.len
  have HLN := Lib.hid hln
  simp only at HLN
  subst hyz
  have hlx := HS.rd.len
  have hqn : b / 8 < n := by have h1 : v.x.zs.length = n := hln; have := HQL.out; omega
  obtain ⟨g, c', e0, hgb, hgl, _, _, hcl, _⟩ := hyo.at_ (by have h1 : v.x.zs.length = n := hln; omega)
  injection e0 with e1 e2 e3
  subst e1
  have hcell := Lib.hid (show u5.cell? ⟨g, 0 + b / 8, none⟩ = some (.int .u8 (v.x.zs.getD (b / 8) 0)) by rw [Nat.zero_add]; exact hcl _ (by omega))
  have HZ := Lib.hid (show v.x.zs.set (b / 8) (turnZ (v.x.zs.getD (b / 8) 0) (b % 8)) = flipZ v.x.zs b from rfl)
  generalize v.x.zs.getD (b / 8) 0 = z at hcell HZ
  have bo5 : Below w.heap.size w u5 := bo.trans (b5.mono bo.size)
  have hyo := hyo.less bo.size
  clear hcl e2 e3 hln hyr
  go_wp2_with fail
  refine wp_region_bar (T := fun W => Below u5.heap.size u5 W) (s := 10) (by kernel_rfl) ?_
  change wpAnyB _ _ _ _ _ _ _ _ _ u5.drew
  have T0 : Below u5.heap.size u5 u5.drew := (Below.refl _ _).drew
  refine Held.takeB (v := .slice (some ⟨g, 0, none⟩) n c) 0 (some 28) [10] rfl rfl (by kernel_rfl) (by kernel_rfl) (by kernel_rfl) (by kernel_rfl) (fun _ _ _ h => h) rfl (Held.y_move rfl rfl) T0 ?_
  simp only [Act.put, Z1, Z2, Z3]
  refine Held.takeB (v := .int .i64 (b : Int)) 1 (some 29) [10] rfl rfl (by kernel_rfl) (by kernel_rfl) (by kernel_rfl) (by kernel_rfl) (fun _ _ _ h => h) rfl (Held.y_move rfl rfl) T0 ?_
  simp only [Act.put, Z1, Z2, Z3]
  refine Held.takeB (v := .int .i64 ((b / 8 : Nat) : Int)) 2 (some 30) [10] rfl rfl (by kernel_rfl) (by kernel_rfl) (by kernel_rfl) (by kernel_rfl) (fun _ _ _ h => h) rfl (y_quoI _ _ rfl rfl rfl (by decide) HQ.out) T0 ?_
  simp only [Act.put, Z1, Z2, Z3]
  refine Held.takeB (v := .pointer (some ⟨g, 0 + b / 8, none⟩)) 3 (some 31) [10] rfl rfl (by kernel_rfl) (by kernel_rfl) (by kernel_rfl) (by kernel_rfl) (fun _ _ _ h => h) rfl (Held.y_addr rfl rfl rfl (fun W => Held.run_addr_slice (P := Try.prog) 31 5 g 0 n c (b / 8) .i64 Try.underlying31 (by kernel_rfl) hqn W)) T0 ?_
  simp only [Act.put, Z1, Z2, Z3]
  refine Held.takeB (v := .int .u8 z) 4 (some 32) [10] rfl rfl (by kernel_rfl) (by kernel_rfl) (by kernel_rfl) (by kernel_rfl) (fun _ _ _ h => h) rfl (Held.y_load rfl rfl (by kernel_rfl) (fun W hW => (hW.cell (p := ⟨g, 0 + b / 8, none⟩) hgl).trans hcell.out)) T0 ?_
  simp only [Act.put, Z1, Z2, Z3]
  refine Held.takeB (v := .int .i64 (b : Int)) 5 (some 33) [10] rfl rfl (by kernel_rfl) (by kernel_rfl) (by kernel_rfl) (by kernel_rfl) (fun _ _ _ h => h) rfl (Held.y_move rfl rfl) T0 ?_
  simp only [Act.put, Z1, Z2, Z3]
  refine Held.takeB (v := .int .i64 ((b % 8 : Nat) : Int)) 6 (some 34) [10] rfl rfl (by kernel_rfl) (by kernel_rfl) (by kernel_rfl) (by kernel_rfl) (fun _ _ _ h => h) rfl (y_remI _ _ rfl rfl rfl (by decide) HR.out) T0 ?_
  simp only [Act.put, Z1, Z2, Z3]
  refine Held.takeB (v := .int .u8 (IntKind.u8.wrap (1 * 2 ^ (b % 8)))) 7 (some 35) [10] rfl rfl (by kernel_rfl) (by kernel_rfl) (by kernel_rfl) (by kernel_rfl) (fun _ _ _ h => h) rfl (Held.y_bin rfl rfl rfl (fun w => by simp [eqGuard]) (Rc.run_shl_ 5 .u8 .i64 (b % 8) (by show b % 8 ≤ 8; omega))) T0 ?_
  simp only [Act.put, Z1, Z2, Z3]
  refine Held.takeB (v := .int .u8 (turnZ z (b % 8))) 8 (some 36) [10] rfl rfl (by kernel_rfl) (by kernel_rfl) (by kernel_rfl) (by kernel_rfl) (fun _ _ _ h => h) rfl (Held.y_int rfl rfl rfl (Held.run_bitop (by simp) 5 .u8 rfl)) T0 ?_
  simp only [Act.put, Z1, Z2, Z3]
  refine Held.takeB (v := .pointer (some ⟨g, 0 + b / 8, none⟩)) 9 (some 37) [10] rfl rfl (by kernel_rfl) (by kernel_rfl) (by kernel_rfl) (by kernel_rfl) (fun _ _ _ h => h) rfl (Held.y_addr rfl rfl rfl (fun W => Held.run_addr_slice (P := Try.prog) 31 5 g 0 n c (b / 8) .i64 Try.underlying31 (by kernel_rfl) hqn W)) T0 ?_
  simp only [Act.put, Z1, Z2, Z3]
  refine Held.oneB 10 (by kernel_rfl) ?_
  refine op_store_Own 10 none 5 w.heap.size g n c (0 + b / 8) (b / 8) (turnZ z (b % 8)) 5 .u8 rfl rfl rfl rfl rfl (by omega) rfl (by kernel_rfl) (hyo.below T0) (by rw [HLN.out]; exact hqn) (wf_bits _ _ _ _) ?_
  intro u6 o6 g6
  refine ⟨fun h => (by cases h.symm.trans (show _ = true by kernel_rfl)), ?_⟩
  simp only [Act.put]
  refine Held.doneB (by kernel_rfl) ?_ _
  have bo6 : Below w.heap.size w u6 := (bo5.trans (T0.mono bo5.size)).grown g6 (Nat.le_trans bo5.size T0.size) (fun r e => by cases e; exact Nat.le_trans bo.size hgb)
  rw [HZ.out] at o6
  have hif : Ints u6 .u8 u6.heap.size (some ⟨g, 0, none⟩) n (flipZ v.x.zs b) := by
    obtain ⟨Af, cf, ef, _, _, hif⟩ := o6.form
    have hlf : (flipZ v.x.zs b).length = n := by have h1 : v.x.zs.length = n := HLN.out; unfold flipZ; rw [List.length_set]; exact h1
    rw [hlf] at ef hif
    injection ef with ef1 _ _
    rw [ef1]
    exact hif
  have hyb : Rd (fun r => w.heap.size ≤ r) u6 (⟨some ⟨g, 0, none⟩, n, c, flipZ v.x.zs b⟩ : Bs) := ⟨hif, by have h1 : v.x.zs.length = n := HLN.out; have := HS.rd.2.1; show n ≤ _; omega, fun b' off p e hn => by injection e with e; injection e with e; rw [← e]; exact Nat.le_trans bo.size hgb⟩
  obtain ⟨ow6, H6, C6, hy6⟩ := H.take bo6 hyb
  have hcs := H6.writesCell (Below.refl _ _)
  go_wp2_with (refine wpList_build_blk rfl 73 #[_, _] rfl #[.int .i64 0, .bool true, .slice (some ⟨g, 0, none⟩) n c] (by kernel_rfl) ?_)
  refine (show_any H6 hi (t := W) (v := ⟨0, true, ⟨some ⟨g, 0, none⟩, n, c, flipZ v.x.zs b⟩⟩) (H.wfW hN) hy6 hN).mono ?_
  rintro r3 u7 ⟨rfl, ow7, H7, C7⟩
  go_wp2_with fail
  go_ret
  exact ⟨rfl, ow7, _, H7, C6.trans C7, H6.turned hi W _⟩
end Go.Proofs.Ytbippmbcgkicaaa.Sto
namespace Go.Proofs.Ytbippmbcgkicaaa.Sto
open Go.RowKit Go.Shelf Go.Proofs.Ytbippmbcgkicaaa Mem Held Sl Go.Proofs.Ytbippmbcgkicaaa.Range
attribute [local irreducible] wpList wpListIn Calls
def flipP (t : Int) (k : List UInt8) (bit : Int) (L : Lp) : Bool × Lp := if bit < 0 ∨ ((shwP L k).2.length : Int) ≤ bit / 8 then (false, L) else (true, modP k (shwF t ⟨0, true, flipZ (shwP L k).2 bit.toNat⟩) L)
structure SI (ow : Nat → Nat) (w : World) (s : Nat) (W : Int) (N : Nat) (es : List Ent) : Prop where
  sto : Sto ow w s W N es
  good : GoodL (absL es) W
section
variable {ow : Nat → Nat} {w : World} {s N : Nat} {W : Int} {es : List Ent} {k k' : Nm}
theorem SI.some (H : SI ow w s W N es) : ∀ e ∈ es, e.us ≠ [] := fun e he h => by
  have := (H.good.2 e.p (abs_mem he)).ne
  simp [Ent.p, h] at this
theorem SI.below {w' : World} (H : SI ow w s W N es) (hb : Below w.heap.size w w') : SI ow w' s W N es := ⟨H.sto.below hb, H.good⟩
theorem SI.keep {w' : World} (H : SI ow w s W N es) (hk : KeepsP (fun r => ow r ≠ 0) w w') : SI ow w' s W N es := ⟨H.sto.keep hk, H.good⟩
theorem SI.more {N' : Nat} (H : SI ow w s W N es) (hN : N ≤ N') : SI ow w s W N' es := ⟨H.sto.more hN, H.good⟩
theorem put_si (H : SI ow w s W N es) (hk : k.length ≤ maxLen) {x : Bs} (hx : Rd (fun b => ow b ≤ 1) w x) (hN : N ≤ 900000) :
    Calls Try.prog 20 #[.pointer (some ⟨s, 0, none⟩), encStr k, .slice x.A x.n x.c] w fun r w' => r = .returned (.tuple #[]) ∧ ∃ ow' es', SI ow' w' s (W + 1) (N + 3) es' ∧ Chg ow ow' w w' ∧ absL es' = putP (W + 1) k x.zs (absL es) := by
  refine (put_any H.sto hk hx hN).mono ?_
  rintro r w' ⟨rfl, ow', es', h1, h2, h3⟩
  exact ⟨rfl, ow', es', ⟨h1, by rw [h3]; exact good_put H.good⟩, h2, h3⟩
theorem get_si (H : SI ow w s W N es) (hk : k.length ≤ maxLen) (hN : N ≤ 900000) :
    Calls Try.prog 26 #[.pointer (some ⟨s, 0, none⟩), encStr k] w fun r w' => ∃ y : Bs, r = .returned (.tuple #[.slice y.A y.n y.c, .bool (shwP (absL es) k).1]) ∧ y.zs = (shwP (absL es) k).2 ∧ Mem.Own w' w.heap.size 5 .u8 (.slice y.A y.n y.c) y.zs ∧ Rd (fun b => w.heap.size ≤ b) w' y ∧ Below w.heap.size w w' := by
  obtain ⟨p, v, HS, hsh, hp⟩ := shows_any H.sto hk H.some (by omega)
  refine (get_core HS).mono ?_
  rintro r w' ⟨y, rfl, h1, h2, h3, h4⟩
  rw [hsh]
  exact ⟨y, rfl, h1, by rw [h1]; exact h2, h3, h4⟩
theorem versions_si (H : SI ow w s W N es) (hk : k.length ≤ maxLen) :
    Calls Try.prog 29 #[.pointer (some ⟨s, 0, none⟩), encStr k] w fun r w' => r = .returned (.int .i64 ((verP (absL es) k).length : Int)) ∧ w = w' := by
  by_cases hm : ∃ e ∈ es, e.k = k
  · obtain ⟨e, he, rfl⟩ := hm
    have hv : (verP (absL es) e.k).length = e.vs.length := by
      unfold verP
      rw [H.sto.ent he]
      simp [Ent.p]
    rw [hv]
    exact versions_some H.sto he
  · have hne : ∀ e ∈ es, e.k ≠ k := fun e he h => hm ⟨e, he, h⟩
    have hv : (verP (absL es) k).length = 0 := by
      unfold verP
      rw [ent_no hne]
      rfl
    rw [hv]
    exact versions_none H.sto hk hne
theorem at_p {p : Option Nat} {v : Vw} (hsh : shwP (absL es) k = (v.is, v.x.zs)) (hp : (p = none ∧ entP (absL es) k = none) ∨ ∃ (i : Nat) (e : Ent), es[i]? = some e ∧ e.k = k ∧ p = some e.h) (hv : v.is = true) : ∃ (i : Nat) (e : Ent), es[i]? = some e ∧ e.k = k ∧ p = some e.h := by
  rcases hp with ⟨_, h0⟩ | h
  · unfold shwP at hsh
    rw [h0] at hsh
    have := congrArg Prod.fst hsh
    simp [hv] at this
  · exact h
theorem delete_si (H : SI ow w s W N es) (hk : k.length ≤ maxLen) (hN : N ≤ 900000) :
    Calls Try.prog 13 #[.pointer (some ⟨s, 0, none⟩), encStr k] w fun r w' => r = .returned (.bool (delP W k (absL es)).1) ∧ ∃ ow' es', SI ow' w' s W (N + 3) es' ∧ Chg ow ow' w w' ∧ absL es' = (delP W k (absL es)).2 := by
  obtain ⟨p, v, HS, hsh, hp⟩ := shows_any H.sto hk H.some (by omega)
  unfold delP
  rw [hsh]
  cases hv : v.is
  · refine (delete_no HS hv).mono ?_
    rintro r w' ⟨rfl, hb⟩
    exact ⟨rfl, ow, es, (H.below hb).more (by omega), Chg.below hb ow, rfl⟩
  · obtain ⟨i, e, hi, rfl, rfl⟩ := at_p hsh hp hv
    refine (delete_yes H.sto HS hi hv (by omega)).mono ?_
    rintro r w' ⟨rfl, ow', es', h1, h2, h3⟩
    exact ⟨rfl, ow', es', ⟨h1.more (by omega), by rw [h3]; exact good_show H.good (fun _ => rfl)⟩, h2, h3⟩
theorem swap_si (H : SI ow w s W N es) (hk : k.length ≤ maxLen) (hk' : k'.length ≤ maxLen) (hN : N ≤ 900000) :
    Calls Try.prog 11 #[.pointer (some ⟨s, 0, none⟩), encStr k, encStr k'] w fun r w' => r = .returned (.bool (swapP W k k' (absL es)).1) ∧ ∃ ow' es', SI ow' w' s W (N + 3) es' ∧ Chg ow ow' w w' ∧ absL es' = (swapP W k k' (absL es)).2 := by
  obtain ⟨p, v, HS, hsh, hp⟩ := shows_any H.sto hk H.some (by omega)
  obtain ⟨p', v', HS', hsh', hp'⟩ := shows_any H.sto hk' H.some (by omega)
  unfold swapP
  rw [hsh, hsh']
  have no : v.is = false ∨ v'.is = false → Calls Try.prog 11 #[.pointer (some ⟨s, 0, none⟩), encStr k, encStr k'] w fun r w' => r = .returned (.bool false) ∧ ∃ ow' es', SI ow' w' s W (N + 3) es' ∧ Chg ow ow' w w' ∧ absL es' = absL es := fun hv => by
    refine (swap_no HS HS' hv).mono ?_
    rintro r w' ⟨rfl, hb⟩
    exact ⟨rfl, ow, es, (H.below hb).more (by omega), Chg.below hb ow, rfl⟩
  cases hv : v.is
  · simp only [Bool.false_and, Bool.false_eq_true, if_false]
    exact no (.inl hv)
  · cases hv' : v'.is
    · simp only [Bool.and_false, Bool.false_eq_true, if_false]
      exact no (.inr hv')
    · obtain ⟨i, e, hi, rfl, rfl⟩ := at_p hsh hp hv
      obtain ⟨j, e', hj, rfl, rfl⟩ := at_p hsh' hp' hv'
      refine (swap_yes H.sto HS HS' hi hj hv hv' (by omega)).mono ?_
      rintro r w' ⟨rfl, ow', es', h1, h2, h3⟩
      have e1 : shwF W v.p = shwF W ⟨0, true, v.x.zs⟩ := by unfold shwF showP Vw.p; simp only [hv]
      have e2 : shwF W v'.p = shwF W ⟨0, true, v'.x.zs⟩ := by unfold shwF showP Vw.p; simp only [hv']
      rw [e1, e2] at h3
      exact ⟨rfl, ow', es', ⟨h1.more (by omega), by rw [h3]; exact good_show (good_show H.good (fun h => by cases h)) (fun h => by cases h)⟩, h2, h3⟩
theorem replay_si (H : SI ow w s W N es) (hk : k.length ≤ maxLen) {n : Int} (hN : N ≤ 900000) :
    Calls Try.prog 9 #[.pointer (some ⟨s, 0, none⟩), encStr k, .int .i64 n] w fun r w' => r = .returned (.bool (replayP W k n (absL es)).1) ∧ ∃ ow' es', SI ow' w' s W (N + 3) es' ∧ Chg ow ow' w w' ∧ absL es' = (replayP W k n (absL es)).2 := by
  have no : n < 0 ∨ ((verP (absL es) k).length : Int) ≤ n → Calls Try.prog 9 #[.pointer (some ⟨s, 0, none⟩), encStr k, .int .i64 n] w fun r w' => r = .returned (.bool false) ∧ ∃ ow' es', SI ow' w' s W (N + 3) es' ∧ Chg ow ow' w w' ∧ absL es' = absL es := fun hn => by
    refine (replay_no (versions_si H hk) hn).mono ?_
    rintro r w' ⟨rfl, rfl⟩
    exact ⟨rfl, ow, es, H.more (by omega), Chg.refl _ _, rfl⟩
  unfold replayP
  by_cases h0 : n < 0
  · rw [if_pos h0]
    exact no (.inl h0)
  · rw [if_neg h0]
    obtain ⟨m, rfl⟩ : ∃ m : Nat, n = (m : Int) := ⟨n.toNat, by omega⟩
    rw [Int.toNat_natCast]
    cases hv : (verP (absL es) k)[m]? with
    | none => exact no (.inr (by have := List.getElem?_eq_none_iff.1 hv; omega))
    | some zs =>
      have hkk := ver_key hv
      rw [abs_keys] at hkk
      obtain ⟨e, he, rfl⟩ := List.mem_map.1 hkk
      obtain ⟨i, hi⟩ := List.getElem?_of_mem he
      have hx : ∃ x : Bs, e.vs[m]? = some x ∧ x.zs = zs := by
        unfold verP at hv
        rw [H.sto.ent he] at hv
        have hv : (e.vs.map (·.zs))[m]? = some zs := hv
        rw [List.getElem?_map] at hv
        obtain ⟨x, h1, h2⟩ := Option.map_eq_some_iff.1 hv
        exact ⟨x, h1, h2⟩
      obtain ⟨x, hx, rfl⟩ := hx
      refine (replay_yes H.sto hi hx hN).mono ?_
      rintro r w' ⟨rfl, ow', es', h1, h2, h3⟩
      exact ⟨rfl, ow', es', ⟨h1.more (by omega), by rw [h3]; exact good_show H.good (fun h => by cases h)⟩, h2, h3⟩
theorem flip_si (H : SI ow w s W N es) (hk : k.length ≤ maxLen) {bit : Int} (hw : (Lit.int .i64 bit).wf = true) (hN : N ≤ 900000) :
    Calls Try.prog 17 #[.pointer (some ⟨s, 0, none⟩), encStr k, .int .i64 bit] w fun r w' => r = .returned (.bool (flipP W k bit (absL es)).1) ∧ ∃ ow' es', SI ow' w' s W (N + 3) es' ∧ Chg ow ow' w w' ∧ absL es' = (flipP W k bit (absL es)).2 := by
  obtain ⟨p, v, HS, hsh, hp⟩ := shows_any H.sto hk H.some (by omega)
  have hoff := shw_off H.good (x := k)
  unfold flipP
  rw [hsh] at hoff ⊢
  have hlen : v.x.zs.length = v.x.n := HS.rd.len
  by_cases hb : bit < 0 ∨ (v.x.zs.length : Int) ≤ bit / 8
  · rw [if_pos hb]
    refine (flip_no HS hw (by rw [← hlen]; exact hb)).mono ?_
    rintro r w' ⟨rfl, hb⟩
    exact ⟨rfl, ow, es, (H.below hb).more (by omega), Chg.below hb ow, rfl⟩
  · rw [if_neg hb]
    obtain ⟨b, rfl⟩ : ∃ b : Nat, bit = (b : Int) := ⟨bit.toNat, by omega⟩
    have hv : v.is = true := by
      cases hv : v.is
      · have h1 : v.x.zs = [] := hoff hv
        rw [h1] at hb
        simp at hb
        omega
      · rfl
    obtain ⟨i, e, hi, rfl, rfl⟩ := at_p hsh hp hv
    refine (flip_yes H.sto HS hi hw (by omega) (by omega)).mono ?_
    rintro r w' ⟨rfl, ow', es', h1, h2, h3⟩
    exact ⟨rfl, ow', es', ⟨h1.more (by omega), by rw [h3]; exact good_show H.good (fun h => by cases h)⟩, h2, by rw [h3]; rfl⟩
theorem writes_si (H : SI ow w s W N es) : Calls Try.prog 30 #[.pointer (some ⟨s, 0, none⟩)] w fun r w' => r = .returned (.int .i64 W) ∧ w = w' := writes_any H.sto
end
theorem new_si (w : World) : Calls Try.prog 7 #[] w fun r w' => ∃ s ow, r = .returned (.pointer (some ⟨s, 0, none⟩)) ∧ SI ow w' s 0 0 [] ∧ Below w.heap.size w w' ∧ (∀ b, ow b ≠ 0 → w.heap.size ≤ b) := by
  refine (new_any w).mono ?_
  rintro r w' ⟨s, ow, rfl, h1, h2, h3⟩
  exact ⟨s, ow, rfl, ⟨h1, GoodL.nil 0⟩, h2, h3⟩
theorem chg_below {ow ow' : Nat → Nat} {B : Nat} {w w' : World} (h : Chg ow ow' w w') (hB : B ≤ w.heap.size) (hn : ∀ b, ow b ≠ 0 → B ≤ b) : Below B w w' :=
  h.keep.below hB fun r hr => by
    rcases Nat.eq_zero_or_pos (ow r) with h0 | h0
    · show ow r ≤ 1
      omega
    · have := hn r (by omega); omega
theorem chg_new {ow ow' : Nat → Nat} {B : Nat} {w w' : World} (h : Chg ow ow' w w') (hB : B ≤ w.heap.size) (hn : ∀ b, ow b ≠ 0 → B ≤ b) : ∀ b, ow' b ≠ 0 → B ≤ b := fun b hb => by
  rcases Nat.lt_or_ge b w.heap.size with h1 | h1
  · rw [h.same b h1] at hb
    exact hn b hb
  · omega
set_option maxRecDepth 100000 in
set_option maxHeartbeats 8000000 in
theorem awake18_any (w : World) : Calls Try.prog 8 #[] w fun r w' => r = .returned (.bool true) ∧ Below w.heap.size w w' := by
  go_enter Try.func8, Try.ntmps8
  go_wp2_with fail
  refine (new_si w).mono ?_
  rintro r1 w1 ⟨s, ow1, rfl, H1, b1, n1⟩
  go_wp2_with (refine wpList_build_row1 (w := w1) rfl 31 5 1 _ rfl Try.underlying31 .u8 1 Help.info_u8 [1] rfl (by simp [Act.eval]) (fun z hz => by rw [List.mem_singleton.1 hz]; rfl) (by omega) (by omega) ?_; intro w2 q2 g2 z2)
  have b12 : Below w1.heap.size w1 w2 := (Below.refl _ _).grown g2 (Nat.le_refl _) (by simp)
  have H2 := H1.below b12
  have hr2 : Rd (fun b => ow1 b ≤ 1) w2 (⟨some ⟨w1.heap.size, 0, none⟩, 1, 1, [1]⟩ : Bs) := ⟨q2.ints (n := 1) (by simp), by show (1 : Nat) ≤ 1099511627776; omega, fun b off p e _ => by injection e with e; injection e with e; rw [← e, H1.sto.free (Nat.le_refl _)]; omega⟩
  refine (put_si H2 (k := [97]) (by decide) hr2 (by omega)).mono ?_
  rintro r3 w3 ⟨rfl, ow3, es3, H3, C3, L3⟩
  have hsh : shwP (absL es3) [97] = (true, [1]) := by rw [L3, shw_put, if_pos rfl]
  have HG := Lib.hid (get_si H3 (k := [97]) (by decide) (by omega))
  rw [hsh] at HG
  clear L3 hsh hr2
  go_wp2_with fail
  refine HG.out.mono ?_
  rintro r4 w4 ⟨y, rfl, hyz, hyo, hyr, b4⟩
  obtain ⟨A, n, c, zs⟩ := y
  obtain rfl : zs = [1] := hyz
  obtain rfl : n = 1 := hyr.len.symm
  clear hyo hyr
  go_wp2_with fail
  refine (writes_si (H3.below b4)).mono ?_
  rintro r5 w5 ⟨rfl, rfl⟩
  go_wp2_with fail
  go_ret
  have n2 : ∀ b, ow1 b ≠ 0 → w.heap.size ≤ b := n1
  have c1 := b1.trans (b12.mono b1.size)
  have c3 := chg_below C3 c1.size n1
  exact ⟨rfl, (c1.trans c3).trans (b4.mono (c1.trans c3).size)⟩
end Go.Proofs.Ytbippmbcgkicaaa.Sto
