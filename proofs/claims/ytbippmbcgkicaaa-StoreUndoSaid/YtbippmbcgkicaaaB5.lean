/-
  Package store's known and Put, by their contracts.
  Package store's Get, Delete, Swap, Replay and Flip, by their contracts.
  Package store's Flip, and what is asked of a store first (awake), by their contracts.
-/
import Derived.Test.YtbippmbcgkicaaaB4
set_option linter.unusedVariables false
namespace Go.Proofs.Ytbippmbcgkicaaa.Sto
open Go.RowKit Go.Shelf Go.Proofs.Ytbippmbcgkicaaa Mem Held Sl Go.Proofs.Ytbippmbcgkicaaa.Range
attribute [local irreducible] wpList wpListIn Calls
theorem y_lookP {ρ : Operand → Value} {o : Oper} {m x : Operand} {k : Nm} {w : World} {b n : Nat} {M : List (Nm × Option Nat)} {g : Option Nat} {v : Value} (ho : o.op = .lookup 62 m x false) (hm : ρ m = .map (some b)) (hx : ρ x = encStr k) (hk : k.length ≤ maxLen)
    (h : MpS eP Try.prog 9 w b n M ∧ lookS none M k = g) (hv : ptrV g = v) : (execOp ρ o).run Try.prog w = .ok (.value v) w := by
  subst hv
  have := y_lookS (S := fun W => W = w) ho hm hx hk Try.underlying9 Try.underlying62 zero_ptr (fun W hW => hW ▸ h.1) w rfl
  rw [← h.2]
  exact this
theorem known_old {ow : Nat → Nat} {w : World} {s N : Nat} {W : Int} {es : List Ent} (H : Sto ow w s W N es) {e : Ent} (he : e ∈ es) :
    Calls Try.prog 44 #[.pointer (some ⟨s, 0, none⟩), encStr e.k] w fun r w' => r = .returned (.pointer (some ⟨e.h, 0, none⟩)) ∧ w = w' := by
  have hk := (H.few e he).2.2
  obtain ⟨mv, hb, hm⟩ := H.blk
  have hc := hb.cell (i := 0) rfl
  rcases hm with ⟨rfl, rfl⟩ | ⟨b, rfl, _, hM⟩
  · cases he
  · have HL := Lib.hid (And.intro hM (look_ent H.keys he))
    clear hM
    obtain ⟨k, hkk⟩ : ∃ k, e.k = k := ⟨_, rfl⟩
    rw [hkk] at hk HL ⊢
    clear hkk
    go_enter Try.func44, Try.ntmps44
    go_wp2_with (first
      | (refine Held.wpList_run (w := w) rfl (v := .bool false) (y_mapnil (S := fun _ => True) (A := some b) rfl rfl rfl Try.underlying62 _ trivial) ?_)
      | (refine wpList_run (w := w) rfl (v := .pointer (some ⟨e.h, 0, none⟩)) (y_lookP (w := w) (b := b) (n := N) (M := _) (g := some e.h) rfl rfl rfl hk HL.out rfl) ?_))
    go_ret
    exact ⟨rfl, rfl⟩
set_option maxRecDepth 100000 in
set_option maxHeartbeats 8000000 in
theorem known_new {ow : Nat → Nat} {w : World} {s N : Nat} {W : Int} {es : List Ent} (H : Sto ow w s W N es) {k : Nm} (hk : k.length ≤ maxLen) (hne : ∀ e ∈ es, e.k ≠ k) (hN : N ≤ 1000000) :
    Calls Try.prog 44 #[.pointer (some ⟨s, 0, none⟩), encStr k] w fun r w' => ∃ g ow', r = .returned (.pointer (some ⟨g, 0, none⟩)) ∧ Sto ow' w' s W (N + 1) (es ++ [⟨k, g, [], []⟩]) ∧ Chg ow ow' w w' := by
  obtain ⟨mv, hb, hm⟩ := H.blk
  have hc := hb.cell (i := 0) rfl
  have hlt := hb.lt
  have hno := look_no hne
  have hnk : ¬ k ∈ ((es.map fun e => (e.k, some e.h)).map (·.1)) := by
    rw [ent_keys, List.mem_map]
    rintro ⟨e, he, h⟩
    exact hne e he h
  rcases hm with ⟨rfl, rfl⟩ | ⟨b, rfl, hob, hM⟩
  · have HA := Lib.hid (fun (w' : World) (b g : Nat) => Sto.add (w' := w') H (b := b) (g := g) hk hne)
    clear hno hnk hne
    go_enter Try.func44, Try.ntmps44
    go_wp2_with (first
      | (refine Held.wpList_run (w := w) rfl (v := .bool true) (y_mapnil (S := fun _ => True) (A := none) rfl rfl rfl Try.underlying62 _ trivial) ?_)
      | (refine wpList_makeMap_S eP (P := Try.prog) (w := w) rfl 62 9 rfl ?_; intro u1 m1 g1 z1; have qs1 := hb.grown g1 (by simp))
      | (refine wpList_store_field (w := u1) rfl 62 _ _ rfl s 0 rfl 64 _ (.map (some w.heap.size)) rfl qs1 (by simp) (by kernel_rfl) rfl rfl ?_; intro u2 q2 g2 z2; have hc2 := q2.cell (i := 0) rfl; have m2 := m1.kept g2 (by intro e; injection e with e; omega); have HL2 := Lib.hid (And.intro m2 (show lookS (none : Option Nat) [] k = none from rfl)))
      | (refine wpList_box_blk (w := u2) rfl 71 _ rfl _ rfl ?_; intro u3 q3 g3 z3; have m3 := m2.kept g3 (by simp); have qs3 := Blk.grown q2 g3 (by simp))
      | (refine wpList_mapUpdate_S (E := eP) (w := u3) rfl _ _ _ 62 9 k (some u2.heap.size) rfl w.heap.size 0 [] rfl rfl rfl hk trivial Try.underlying9 Try.underlying62 m3 (by omega) ?_; intro u4 m4 g4; have qs4 := Blk.grown qs3 g4 (by intro e; injection e with e; omega); have qh4 := Blk.grown q3 g4 (by intro e; injection e with e; have := g1.size; have := g2.size; have := z1.out; have := z2.out; omega); have hc4 := qs4.cell (i := 0) rfl; have HL4 := Lib.hid (And.intro m4 (show lookS (none : Option Nat) (putS k (some u2.heap.size) []) k = some u2.heap.size by simp [putS, lookS])))
      | (refine wpList_run (w := u4) rfl (v := .pointer (some ⟨u2.heap.size, 0, none⟩)) (y_lookP (w := u4) (b := w.heap.size) (n := 0 + 1) (M := _) (g := some u2.heap.size) rfl rfl rfl hk HL4.out rfl) ?_)
      | (refine wpList_run (w := u2) rfl (v := .pointer none) (y_lookP (w := u2) (b := w.heap.size) (n := 0) (M := _) (g := none) rfl rfl rfl hk HL2.out rfl) ?_))
    go_ret
    have s12 : w.heap.size ≤ u2.heap.size := Nat.le_trans g1.size g2.size
    have KP : KeepsP (fun r => ow r ≠ s + 2 ∧ r < w.heap.size) w u4 := (KeepsP.of_grown g1 (fun r e => by cases e)).trans ((KeepsP.of_grown g2 (fun r e hr => by cases e; exact hr.1 H.own)).trans ((KeepsP.of_grown g3 (fun r e => by cases e)).trans (KeepsP.of_grown g4 (fun r e hr => by cases e; have := hr.2; omega))))
    obtain ⟨ow', h1, h2⟩ := HA.out u4 w.heap.size u2.heap.size KP qs4 (m4.mono (by omega)) (.inr (Nat.le_refl _)) qh4 s12
    exact ⟨_, ow', rfl, h1, h2⟩
  · have HA := Lib.hid (fun (w' : World) (g : Nat) => Sto.add (w' := w') H (b := b) (g := g) hk hne)
    have HL := Lib.hid (And.intro hM hno)
    have HPN := Lib.hid (fun (g : Nat) => putS_new (k := k) (v := some g) hnk)
    have hbl := hM.lt
    have hsb : s ≠ b := fun e => by
      obtain ⟨es', clock, h1⟩ := hM.obj
      have hb' : w.heap[s]? = some (.cells #[.map (some b), .int .i64 W] 64 (0, 0)) := hb
      rw [e, h1] at hb'
      cases hb'
    generalize hMM : (es.map fun e => (e.k, some e.h)) = M at hM HL HPN
    have hMM := Lib.hid hMM
    clear hno hnk hne
    go_enter Try.func44, Try.ntmps44
    go_wp2_with (first
      | (refine Held.wpList_run (w := w) rfl (v := .bool false) (y_mapnil (S := fun _ => True) (A := some b) rfl rfl rfl Try.underlying62 _ trivial) ?_)
      | (refine wpList_box_blk (w := w) rfl 71 _ rfl _ rfl ?_; intro u3 q3 g3 z3; have m3 := hM.kept g3 (by simp); have qs3 := Blk.grown hb g3 (by simp))
      | (refine wpList_mapUpdate_S (E := eP) (w := u3) rfl _ _ _ 62 9 k (some w.heap.size) rfl b N M rfl rfl rfl hk trivial Try.underlying9 Try.underlying62 m3 (by omega) ?_; intro u4 m4 g4; have qs4 := Blk.grown qs3 g4 (by intro e; injection e with e; exact hsb e); have qh4 := Blk.grown q3 g4 (by intro e; injection e with e; omega); have hc4 := qs4.cell (i := 0) rfl; have HL4 := Lib.hid (And.intro m4 (show lookS (none : Option Nat) (putS k (some w.heap.size) M) k = some w.heap.size by rw [lookS_put, if_pos rfl])))
      | (refine wpList_run (w := u4) rfl (v := .pointer (some ⟨w.heap.size, 0, none⟩)) (y_lookP (w := u4) (b := b) (n := N + 1) (M := _) (g := some w.heap.size) rfl rfl rfl hk HL4.out rfl) ?_)
      | (refine wpList_run (w := w) rfl (v := .pointer none) (y_lookP (w := w) (b := b) (n := N) (M := _) (g := none) rfl rfl rfl hk HL.out rfl) ?_))
    go_ret
    have KP : KeepsP (fun r => ow r ≠ s + 2 ∧ r < w.heap.size) w u4 := (KeepsP.of_grown g3 (fun r e => by cases e)).trans (KeepsP.of_grown g4 (fun r e hr => by cases e; exact hr.1 hob))
    have m5 := m4
    rw [HPN.out, ← hMM.out] at m5
    obtain ⟨ow', h1, h2⟩ := HA.out u4 w.heap.size KP qs4 (by rw [List.map_append]; exact m5) (.inl hob) qh4 (Nat.le_refl _)
    exact ⟨_, ow', rfl, h1, h2⟩
theorem known_any {ow : Nat → Nat} {w : World} {s N : Nat} {W : Int} {es : List Ent} (H : Sto ow w s W N es) {k : Nm} (hk : k.length ≤ maxLen) (hN : N ≤ 1000000) :
    Calls Try.prog 44 #[.pointer (some ⟨s, 0, none⟩), encStr k] w fun r w' => ∃ (ow' : Nat → Nat) (es' : List Ent) (i : Nat) (e : Ent), r = .returned (.pointer (some ⟨e.h, 0, none⟩)) ∧ Sto ow' w' s W (N + 1) es' ∧ es'[i]? = some e ∧ e.k = k ∧ absL es' = addP k (absL es) ∧ Chg ow ow' w w' := by
  by_cases hm : ∃ e ∈ es, e.k = k
  · obtain ⟨e, he, rfl⟩ := hm
    obtain ⟨i, hi⟩ := List.getElem?_of_mem he
    refine (known_old H he).mono ?_
    rintro r w' ⟨rfl, rfl⟩
    refine ⟨ow, es, i, e, rfl, H.more (Nat.le_succ N), hi, rfl, ?_, Chg.refl _ _⟩
    unfold addP
    rw [if_pos]
    show e.k ∈ keysP (absL es)
    rw [abs_keys]
    exact List.mem_map.2 ⟨e, he, rfl⟩
  · have hne : ∀ e ∈ es, e.k ≠ k := fun e he h => hm ⟨e, he, h⟩
    refine (known_new H hk hne hN).mono ?_
    rintro r w' ⟨g, ow', rfl, h1, h2⟩
    refine ⟨ow', _, es.length, ⟨k, g, [], []⟩, rfl, h1, by simp, rfl, ?_, h2⟩
    unfold addP
    rw [abs_app, if_neg]
    · rfl
    · show ¬ k ∈ keysP (absL es)
      rw [abs_keys, List.mem_map]
      rintro ⟨e, he, h⟩
      exact hne e he h
set_option maxRecDepth 100000 in
set_option maxHeartbeats 8000000 in
theorem put_any {ow : Nat → Nat} {w : World} {s N : Nat} {W : Int} {es : List Ent} (H : Sto ow w s W N es) {k : Nm} (hk : k.length ≤ maxLen) {x : Bs} (hx : Rd (fun b => ow b ≤ 1) w x) (hN : N ≤ 900000) :
    Calls Try.prog 20 #[.pointer (some ⟨s, 0, none⟩), encStr k, .slice x.A x.n x.c] w fun r w' => r = .returned (.tuple #[]) ∧ ∃ ow' es', Sto ow' w' s (W + 1) (N + 3) es' ∧ Chg ow ow' w w' ∧ absL es' = putP (W + 1) k x.zs (absL es) := by
  have hW := H.wf
  have HAD := Lib.hid (show IntKind.i64.wrap (W + 1) = W + 1 by simp [IntKind.wrap_i64]; omega)
  have HW2 := Lib.hid hW
  have HWF := Lib.hid (show (Lit.int .i64 (W + 1)).wf = true by simp [Lit.wf, IntKind.min, IntKind.max, IntKind.signed, IntKind.bits]; omega)
  clear hW
  go_enter Try.func20, Try.ntmps20
  go_wp2_with fail
  refine (known_any H hk (by omega)).mono ?_
  rintro r1 w1 ⟨ow1, es1, i, e, rfl, H1, hi, hek, habs, C1⟩
  have hx1 := hx.keep C1.keep
  go_wp2_with fail
  refine (copied_any hx1).mono ?_
  rintro r2 w2 ⟨y, rfl, hyz, _, hy, b2⟩
  obtain ⟨ow2, H2, C2, hy2⟩ := H1.take b2 hy
  obtain ⟨hoh, vv, ww, hbh, hv, hw, ho1, ho2⟩ := H2.hist e (List.mem_of_getElem? hi)
  have hfe := H2.few e (List.mem_of_getElem? hi)
  have hch := hbh.cell (i := 0) rfl
  have HPU := Lib.hid (fun (w3 w4 w5 : World) (v' : Value) => Sto.push (w1 := w3) (w2 := w4) (w3 := w5) (v' := v') H2 hi hy2 hbh hv hw ho1 ho2)
  have HLV := Lib.hid hfe.1
  have HC := Lib.hid (And.intro C1 (And.intro C2 (And.intro hek habs)))
  have HY := Lib.hid (And.intro hy2 (And.intro hyz hi))
  have HLW := Lib.hid H2.low
  have hil := (List.getElem?_eq_some_iff.1 hi).1
  clear hfe hw ho1 ho2 hoh hy hx hx1 C1 C2 hek habs hi hyz hy2
  go_wp2_with (first
    | (refine wpList_build_lst1 (k := kB) (w := w2) rfl 68 31 1 _ rfl Try.underlying68 _ 24 info_kB rfl [y] rfl (by simp [Act.eval, kB, Sl.flat]) (by intro v hv; simp [kB, Sl.flat] at hv; rw [hv]; rfl) (by omega) (by omega) ?_; intro w3 q3 g3 z3; have hv3 := OwnL.kept hv g3 (by cases vv.ownBlock <;> simp); have hb3 := Blk.grown hbh g3 (by simp))
    | (refine wpList_append_lst0 (k := kB) (w := w3) rfl _ _ 68 31 rfl Try.underlying68 _ 24 info_kB rfl 0 w3.heap.size 1 1 (some ⟨w2.heap.size, 0, none⟩) vv e.vs [y] rfl rfl hv3 (lst_whole q3 rfl (by simp [kB])) (by have := HLV.out; omega) (by omega) (Nat.zero_le _) ?_; intro v4 w4 o4 g4 n4; have qh4 := Blk.grown hb3 g4 (fun e' => OwnL.ne_blk hv3 hb3 (by decide) e'.symm))
    | (refine wpList_store_field (w := w4) rfl 68 _ _ rfl e.h 0 rfl 71 _ v4 rfl qh4 (by simp) (by kernel_rfl) (own_cells o4) (own_one o4) ?_; intro w5 q5 g5 z5; obtain ⟨ow3, H3, C3⟩ := HPU.out w3 w4 w5 v4 g3 o4 g4 n4 q5 g5; obtain ⟨mv, hbs, _⟩ := H3.blk; have hcs := hbs.cell (i := 1) rfl)
    | (refine Held.wpList_run (w := w5) rfl (v := .int .i64 (W + 1)) (y_addI (S := fun _ => True) _ _ rfl rfl rfl HAD.out _ trivial) ?_)
    | (refine wpList_store_field (w := w5) rfl 3 _ _ rfl s 1 rfl 64 _ (.int .i64 (W + 1)) rfl hbs (by simp) (by kernel_rfl) rfl rfl ?_; intro w6 q6 g6 z6; obtain ⟨H6, C6⟩ := Sto.turn (W' := W + 1) H3 hbs g6 q6 (by have := HW2.out; omega); have hcs6 := Blk.cell (cs := #[mv, .int .i64 (W + 1)]) q6 (i := 1) rfl)
    | (refine wpList_build_blk rfl 73 #[_, _] rfl #[.int .i64 0, .bool true, .slice y.A y.n y.c] (by kernel_rfl) ?_))
  obtain ⟨C1, C2, hek, habs⟩ := HC.out
  obtain ⟨hy2, hyz, hi⟩ := HY.out
  have C36 := C3.trans C6
  have hy6 := C36.rd HLW.out hy2
  refine (show_any H6 (i := i) (e := { e with vs := e.vs ++ [y] }) (t := W + 1) (v := ⟨0, true, y⟩) (by rw [List.getElem?_set, if_pos rfl, if_pos hil]) HWF.out hy6 (by omega)).mono ?_
  rintro r7 w7 ⟨rfl, ow7, H7, C7⟩
  go_wp2_with fail
  go_end0
  refine ⟨rfl, ow7, _, H7, C1.trans (C2.trans (C36.trans C7)), ?_⟩
  rw [List.set_set, abs_set (f := putF (W + 1) x.zs) H2.keys hi (by rfl) (by simp [Ent.p, putF, showC_abs, hyz, Vw.p]), habs, hek]
  rfl
end Go.Proofs.Ytbippmbcgkicaaa.Sto
namespace Go.Proofs.Ytbippmbcgkicaaa.Sto
open Go.RowKit Go.Shelf Go.Proofs.Ytbippmbcgkicaaa Mem Held Sl Go.Proofs.Ytbippmbcgkicaaa.Range
attribute [local irreducible] wpList wpListIn Calls
structure Shows (S0 : Value) (w : World) (k : Nm) (R : Nat → Prop) (p : Option Nat) (v : Vw) : Prop where
  find : ∀ w', Below w.heap.size w w' → Calls Try.prog 32 #[S0, encStr k] w' fun r w'' => r = .returned (ptrV p) ∧ w' = w''
  now : ∀ w', Below w.heap.size w w' → Calls Try.prog 36 #[ptrV p] w' fun r w'' => r = .returned (.agg #[.int .i64 v.t, .bool v.is, .slice v.x.A v.x.n v.x.c]) ∧ Below w'.heap.size w' w''
  rd : Rd R w v.x
theorem Shows.below {S0 : Value} {w w' : World} {k : Nm} {R : Nat → Prop} {p : Option Nat} {v : Vw} (h : Shows S0 w k R p v) (hb : Below w.heap.size w w') : Shows S0 w' k R p v :=
  ⟨fun w2 h2 => h.find w2 (hb.trans (h2.mono hb.size)), fun w2 h2 => h.now w2 (hb.trans (h2.mono hb.size)), h.rd.keep (KeepsP.of_below hb)⟩
theorem shows_any {ow : Nat → Nat} {w : World} {s N : Nat} {W : Int} {es : List Ent} (H : Sto ow w s W N es) {k : Nm} (hk : k.length ≤ maxLen) (hu : ∀ e ∈ es, e.us ≠ []) (hN : N ≤ 1000000) :
    ∃ p v, Shows (.pointer (some ⟨s, 0, none⟩)) w k (fun r => ow r = 1) p v ∧ shwP (absL es) k = (v.is, v.x.zs) ∧ ((p = none ∧ entP (absL es) k = none) ∨ ∃ (i : Nat) (e : Ent), es[i]? = some e ∧ e.k = k ∧ p = some e.h) := by
  by_cases hm : ∃ e ∈ es, e.k = k
  · obtain ⟨e, he, rfl⟩ := hm
    obtain ⟨i, hi⟩ := List.getElem?_of_mem he
    have hf := H.few e he
    obtain ⟨m, hm⟩ : ∃ m, e.us.length = m + 1 := ⟨e.us.length - 1, by have := List.length_pos_iff.2 (hu e he); omega⟩
    obtain ⟨v, hv⟩ : ∃ v, e.us[m]? = some v := ⟨_, List.getElem?_eq_getElem (by omega)⟩
    refine ⟨some e.h, v, ⟨fun w' hb => find_some (H.below hb) he, fun w' hb => now_some ((H.below hb).hist e he) hm hv (by omega), ((H.bytes e he).us v (List.mem_of_getElem? hv)).1⟩, ?_, .inr ⟨i, e, hi, rfl, rfl⟩⟩
    have hl : lastP (e.us.map Vw.p) = v.p := by
      unfold lastP
      rw [List.length_map, hm, Nat.add_sub_cancel, List.getD_eq_getElem?_getD, List.getElem?_map, hv]
      rfl
    unfold shwP
    rw [H.ent he]
    show ((lastP (e.us.map Vw.p)).is, (lastP (e.us.map Vw.p)).zs) = _
    rw [hl]
    rfl
  · have hne : ∀ e ∈ es, e.k ≠ k := fun e he h => hm ⟨e, he, h⟩
    refine ⟨none, Vw.none, ⟨fun w' hb => find_none (H.below hb) hk hne, fun w' hb => now_nil w', Rd.nil _ _⟩, ?_, .inl ⟨rfl, ent_no hne⟩⟩
    unfold shwP
    rw [ent_no hne]
    rfl
set_option maxRecDepth 100000 in
set_option maxHeartbeats 8000000 in
theorem get_core {S0 : Value} {w : World} {k : Nm} {R : Nat → Prop} {p : Option Nat} {v : Vw} (H : Shows S0 w k R p v) :
    Calls Try.prog 26 #[S0, encStr k] w fun r w' => ∃ y : Bs, r = .returned (.tuple #[.slice y.A y.n y.c, .bool v.is]) ∧ y.zs = v.x.zs ∧ Mem.Own w' w.heap.size 5 .u8 (.slice y.A y.n y.c) v.x.zs ∧ Rd (fun b => w.heap.size ≤ b) w' y ∧ Below w.heap.size w w' := by
  have HRD := Lib.hid (fun (w' : World) (h : Below w.heap.size w w') => H.rd.keep (KeepsP.of_below (S := R) h))
  go_enter Try.func26, Try.ntmps26
  go_wp2_with fail
  refine (H.find w (Below.refl _ _)).mono ?_
  rintro r1 w1 ⟨rfl, rfl⟩
  go_wp2_with fail
  refine (H.now w (Below.refl _ _)).mono ?_
  rintro r2 u2 ⟨rfl, b2⟩
  go_wp2_with (first
    | (refine wpList_alloc_blk (w := u2) rfl 73 rfl #[.int .i64 0, .bool false, .slice none 0 0] (by kernel_rfl) ?_; intro u3 qu3 gu3 zu3; have bo3 : Below w.heap.size w u3 := b2.grown gu3 b2.size (by simp))
    | (refine wpList_store_blk (w := u3) rfl 73 _ _ rfl u2.heap.size 3 rfl 73 _ #[.int .i64 v.t, .bool v.is, .slice v.x.A v.x.n v.x.c] rfl qu3 (by kernel_rfl) rfl rfl (by kernel_rfl) ?_; intro u4 q4 g4 z4; have bo : Below w.heap.size w u4 := bo3.grown g4 bo3.size (fun r e => by cases e; exact b2.size); have hlt4 := q4.lt))
  refine wp_region_held (S := fun W => Below u4.heap.size u4 W) (by kernel_rfl) ?_
  change wpAnyH _ _ _ _ _ _ _ _ u4.drew
  have c0_0 := (Below.refl u4.heap.size u4).drew
  refine Held.tk (v := .pointer (some ⟨u2.heap.size, 2, none⟩)) 0 (some 11) rfl (Held.y_field (k := 2) (s := 0) rfl rfl Try.underlying73 rfl (by kernel_rfl) rfl) c0_0 ?_
  simp only [Act.put, Z1, Z2, Z3]
  refine Held.tk (v := .slice v.x.A v.x.n v.x.c) 1 (some 12) rfl (Held.y_load rfl rfl (by kernel_rfl) (fun W hW => (q4.below hW hlt4).cell rfl)) c0_0 ?_
  simp only [Act.put, Z1, Z2, Z3]
  refine Held.tk (v := .pointer (some ⟨u2.heap.size, 1, none⟩)) 3 (some 14) rfl (Held.y_field (k := 1) (s := 0) rfl rfl Try.underlying73 rfl (by kernel_rfl) rfl) c0_0 ?_
  simp only [Act.put, Z1, Z2, Z3]
  refine Held.tk (v := .bool v.is) 4 (some 15) rfl (Held.y_load rfl rfl (by kernel_rfl) (fun W hW => (q4.below hW hlt4).cell rfl)) c0_0 ?_
  simp only [Act.put, Z1, Z2, Z3]
  refine Held.one 2 (by kernel_rfl) ?_
  refine Held.op_call 2 (some 13) 40 #[.slice v.x.A v.x.n v.x.c] rfl rfl rfl rfl (enters_of Try.func40 (by kernel_rfl) rfl) (by simp [Act.eval])
    (copied_any (HRD.out _ (bo.trans (c0_0.mono bo.size)))) ?_
  rintro e w1 ⟨y, rfl, hyz, hyo, hy, b1⟩
  have c0_1 := c0_0.trans (b1.mono c0_0.size)
  refine ⟨_, rfl, c0_1, ?_⟩
  simp only [Act.put, Z1, Z2, Z3]
  refine Held.tk (v := .slice y.A y.n y.c) 5 (some 4) rfl (Held.y_assign rfl rfl) c0_1 ?_
  simp only [Act.put, Z1, Z2, Z3]
  refine Held.tk (v := .bool v.is) 6 (some 5) rfl (Held.y_assign rfl rfl) c0_1 ?_
  simp only [Act.put, Z1, Z2, Z3]
  refine wpAnyH_done (by kernel_rfl) ?_ _
  go_wp2_with fail
  go_ret2
  exact ⟨y, rfl, hyz, hyo.less (Nat.le_trans bo.size c0_0.size), hy.less (fun b hb _ => Nat.le_trans (Nat.le_trans bo.size c0_0.size) hb), bo.trans (c0_1.mono bo.size)⟩
theorem delete_no {S0 : Value} {w : World} {k : Nm} {R : Nat → Prop} {p : Option Nat} {v : Vw} (H : Shows S0 w k R p v) (hv : v.is = false) :
    Calls Try.prog 13 #[S0, encStr k] w fun r w' => r = .returned (.bool false) ∧ Below w.heap.size w w' := by
  obtain ⟨t, is, x⟩ := v
  obtain rfl : is = false := hv
  go_enter Try.func13, Try.ntmps13
  go_wp2_with fail
  refine (H.find w (Below.refl _ _)).mono ?_
  rintro r1 w1 ⟨rfl, rfl⟩
  go_wp2_with fail
  refine (H.now w (Below.refl _ _)).mono ?_
  rintro r2 u2 ⟨rfl, b2⟩
  go_wp2_with (refine Held.wpList_run (w := u2) rfl (Held.y_fieldv (S := fun _ => True) (k := 1) rfl rfl Try.underlying73 rfl (by kernel_rfl) rfl _ trivial) ?_)
  go_ret
  exact ⟨rfl, b2⟩
theorem Sto.writesCell {ow : Nat → Nat} {w w' : World} {s N : Nat} {W : Int} {es : List Ent} (H : Sto ow w s W N es) (hb : Below w.heap.size w w') : w'.cell? ⟨s, 1, none⟩ = some (.int .i64 W) := by
  obtain ⟨mv, hbs, _⟩ := H.blk
  exact (hbs.below hb hbs.lt).cell (i := 1) rfl
theorem Sto.wfW {ow : Nat → Nat} {w : World} {s N : Nat} {W : Int} {es : List Ent} (H : Sto ow w s W N es) (hN : N ≤ 1000000) : (Lit.int .i64 W).wf = true := by
  have := H.wf
  simp [Lit.wf, IntKind.min, IntKind.max, IntKind.signed, IntKind.bits]
  omega
theorem Sto.turned {ow : Nat → Nat} {w : World} {s N : Nat} {W : Int} {es : List Ent} (H : Sto ow w s W N es) {i : Nat} {e : Ent} (hi : es[i]? = some e) (t : Int) (v : Vw) : absL (es.set i { e with us := showC t v e.us }) = modP e.k (shwF t v.p) (absL es) :=
  abs_set (e' := { e with us := showC t v e.us }) (f := shwF t v.p) H.keys hi rfl (by simp [Ent.p, shwF, showC_abs])
set_option maxRecDepth 100000 in
set_option maxHeartbeats 8000000 in
theorem delete_yes {ow : Nat → Nat} {w : World} {s N : Nat} {W : Int} {es : List Ent} (H : Sto ow w s W N es) {i : Nat} {e : Ent} {v : Vw} {R : Nat → Prop} (HS : Shows (.pointer (some ⟨s, 0, none⟩)) w e.k R (some e.h) v) (hi : es[i]? = some e) (hv : v.is = true) (hN : N ≤ 1000000) :
    Calls Try.prog 13 #[.pointer (some ⟨s, 0, none⟩), encStr e.k] w fun r w' => r = .returned (.bool true) ∧ ∃ ow' es', Sto ow' w' s W (N + 1) es' ∧ Chg ow ow' w w' ∧ absL es' = modP e.k (shwF W Vp.none) (absL es) := by
  obtain ⟨t, is, x⟩ := v
  obtain rfl : is = true := hv
  have HWC := Lib.hid (fun (w' : World) (h : Below w.heap.size w w') => H.writesCell h)
  go_enter Try.func13, Try.ntmps13
  go_wp2_with fail
  refine (HS.find w (Below.refl _ _)).mono ?_
  rintro r1 w1 ⟨rfl, rfl⟩
  go_wp2_with fail
  refine (HS.now w (Below.refl _ _)).mono ?_
  rintro r2 u2 ⟨rfl, b2⟩
  have hcs := HWC.out u2 b2
  go_wp2_with (first
    | (refine Held.wpList_run (w := u2) rfl (Held.y_fieldv (S := fun _ => True) (k := 1) rfl rfl Try.underlying73 rfl (by kernel_rfl) rfl _ trivial) ?_)
    | (refine wpList_build_blk rfl 73 #[] rfl #[.int .i64 0, .bool false, .slice none 0 0] (by kernel_rfl) ?_))
  have H2 := H.below b2
  refine (show_any H2 hi (t := W) (v := Vw.none) (H.wfW hN) (Rd.nil _ _) hN).mono ?_
  rintro r3 u3 ⟨rfl, ow3, H3, C3⟩
  go_wp2_with fail
  go_ret
  exact ⟨rfl, ow3, _, H3, (Chg.below b2 ow).trans C3, H2.turned hi W Vw.none⟩
theorem Sto.free {ow : Nat → Nat} {w : World} {s N : Nat} {W : Int} {es : List Ent} (H : Sto ow w s W N es) {r : Nat} (hr : w.heap.size ≤ r) : ow r = 0 := by
  rcases Nat.eq_zero_or_pos (ow r) with h | h
  · exact h
  · have := H.low r (by omega); omega
set_option maxRecDepth 100000 in
set_option maxHeartbeats 8000000 in
theorem swap_no {S0 : Value} {w : World} {k k' : Nm} {R R' : Nat → Prop} {p p' : Option Nat} {v v' : Vw} (H : Shows S0 w k R p v) (H' : Shows S0 w k' R' p' v') (hv : v.is = false ∨ v'.is = false) :
    Calls Try.prog 11 #[S0, encStr k, encStr k'] w fun r w' => r = .returned (.bool false) ∧ Below w.heap.size w w' := by
  obtain ⟨t, is, x⟩ := v
  obtain ⟨t', is', x'⟩ := v'
  cases is
  · clear hv
    go_enter Try.func11, Try.ntmps11
    go_wp2_with fail
    refine (H.find w (Below.refl _ _)).mono ?_
    rintro r1 w1 ⟨rfl, rfl⟩
    go_wp2_with fail
    refine (H'.find w (Below.refl _ _)).mono ?_
    rintro r1 w1 ⟨rfl, rfl⟩
    go_wp2_with fail
    refine (H.now w (Below.refl _ _)).mono ?_
    rintro r2 u1 ⟨rfl, b1⟩
    go_wp2_with fail
    refine (H'.now u1 b1).mono ?_
    rintro r2 u2 ⟨rfl, b2⟩
    have bo := b1.trans (b2.mono b1.size)
    go_wp2_with (first
    | (refine wpList_alloc_blk (w := u2) rfl 73 rfl #[.int .i64 0, .bool false, .slice none 0 0] (by kernel_rfl) ?_; intro u3 qu3 gu3 zu3; have bo : Below w.heap.size w u3 := bo.grown gu3 bo.size (by simp))
    | (refine wpList_alloc_blk (w := u3) rfl 73 rfl #[.int .i64 0, .bool false, .slice none 0 0] (by kernel_rfl) ?_; intro u4 qu4 gu4 zu4; have bo : Below w.heap.size w u4 := bo.grown gu4 bo.size (by simp); have qu3 := qu3.grown gu4 (by simp))
    | (refine wpList_store_blk (w := u4) rfl 73 _ _ rfl u2.heap.size 3 rfl 73 _ #[.int .i64 t, .bool false, .slice x.A x.n x.c] rfl qu3 (by kernel_rfl) rfl rfl (by kernel_rfl) ?_; intro u5 qa g5 z5; have bo : Below w.heap.size w u5 := bo.grown g5 bo.size (fun r e => by cases e; exact Nat.le_trans b1.size b2.size); have qu4 := qu4.grown g5 (by intro e; injection e with e; have := zu3.out; omega))
    | (refine wpList_store_blk (w := u5) rfl 73 _ _ rfl u3.heap.size 3 rfl 73 _ #[.int .i64 t', .bool is', .slice x'.A x'.n x'.c] rfl qu4 (by kernel_rfl) rfl rfl (by kernel_rfl) ?_; intro u6 qb g6 z6; have bo : Below w.heap.size w u6 := bo.grown g6 bo.size (fun r e => by cases e; have := zu3.out; have := b1.size; have := b2.size; omega); have qa := Blk.grown qa g6 (by intro e; injection e with e; have := zu3.out; omega); have ha1 := qa.cell (i := 1) rfl; have hb1 := qb.cell (i := 1) rfl))
    go_ret
    exact ⟨rfl, bo⟩
  · obtain rfl : is' = false := hv.resolve_left (by simp)
    clear hv
    go_enter Try.func11, Try.ntmps11
    go_wp2_with fail
    refine (H.find w (Below.refl _ _)).mono ?_
    rintro r1 w1 ⟨rfl, rfl⟩
    go_wp2_with fail
    refine (H'.find w (Below.refl _ _)).mono ?_
    rintro r1 w1 ⟨rfl, rfl⟩
    go_wp2_with fail
    refine (H.now w (Below.refl _ _)).mono ?_
    rintro r2 u1 ⟨rfl, b1⟩
    go_wp2_with fail
    refine (H'.now u1 b1).mono ?_
    rintro r2 u2 ⟨rfl, b2⟩
    have bo := b1.trans (b2.mono b1.size)
    go_wp2_with (first
    | (refine wpList_alloc_blk (w := u2) rfl 73 rfl #[.int .i64 0, .bool false, .slice none 0 0] (by kernel_rfl) ?_; intro u3 qu3 gu3 zu3; have bo : Below w.heap.size w u3 := bo.grown gu3 bo.size (by simp))
    | (refine wpList_alloc_blk (w := u3) rfl 73 rfl #[.int .i64 0, .bool false, .slice none 0 0] (by kernel_rfl) ?_; intro u4 qu4 gu4 zu4; have bo : Below w.heap.size w u4 := bo.grown gu4 bo.size (by simp); have qu3 := qu3.grown gu4 (by simp))
    | (refine wpList_store_blk (w := u4) rfl 73 _ _ rfl u2.heap.size 3 rfl 73 _ #[.int .i64 t, .bool true, .slice x.A x.n x.c] rfl qu3 (by kernel_rfl) rfl rfl (by kernel_rfl) ?_; intro u5 qa g5 z5; have bo : Below w.heap.size w u5 := bo.grown g5 bo.size (fun r e => by cases e; exact Nat.le_trans b1.size b2.size); have qu4 := qu4.grown g5 (by intro e; injection e with e; have := zu3.out; omega))
    | (refine wpList_store_blk (w := u5) rfl 73 _ _ rfl u3.heap.size 3 rfl 73 _ #[.int .i64 t', .bool false, .slice x'.A x'.n x'.c] rfl qu4 (by kernel_rfl) rfl rfl (by kernel_rfl) ?_; intro u6 qb g6 z6; have bo : Below w.heap.size w u6 := bo.grown g6 bo.size (fun r e => by cases e; have := zu3.out; have := b1.size; have := b2.size; omega); have qa := Blk.grown qa g6 (by intro e; injection e with e; have := zu3.out; omega); have ha1 := qa.cell (i := 1) rfl; have hb1 := qb.cell (i := 1) rfl))
    go_ret
    exact ⟨rfl, bo⟩
set_option maxRecDepth 100000 in
set_option maxHeartbeats 8000000 in
theorem swap_yes {ow : Nat → Nat} {w : World} {s N : Nat} {W : Int} {es : List Ent} (H : Sto ow w s W N es) {i j : Nat} {e e' : Ent} {v v' : Vw} (HS : Shows (.pointer (some ⟨s, 0, none⟩)) w e.k (fun r => ow r = 1) (some e.h) v) (HS' : Shows (.pointer (some ⟨s, 0, none⟩)) w e'.k (fun r => ow r = 1) (some e'.h) v')
    (hi : es[i]? = some e) (hj : es[j]? = some e') (hv : v.is = true) (hv' : v'.is = true) (hN : N ≤ 900000) :
    Calls Try.prog 11 #[.pointer (some ⟨s, 0, none⟩), encStr e.k, encStr e'.k] w fun r w' => r = .returned (.bool true) ∧ ∃ ow' es', Sto ow' w' s W (N + 2) es' ∧ Chg ow ow' w w' ∧ absL es' = modP e'.k (shwF W v.p) (modP e.k (shwF W v'.p) (absL es)) := by
  obtain ⟨t, is, x⟩ := v
  obtain ⟨t', is', x'⟩ := v'
  obtain rfl : is = true := hv
  obtain rfl : is' = true := hv'
  have HWC := Lib.hid (fun (w' : World) (h : Below w.heap.size w w') => H.writesCell h)
  have hil := (List.getElem?_eq_some_iff.1 hi).1
  have HIJ := Lib.hid (And.intro hi hj)
  have HSH5 := Lib.hid (fun (u w' : World) (hu : Below w.heap.size w u) (h : Below u.heap.size u w') => show_any ((H.below hu).below h) hi (t := W) (v := ⟨t', true, x'⟩) (H.wfW (by omega)) ((HS'.rd.keep (KeepsP.of_below hu)).keep (KeepsP.of_below h)) (by omega))
  have HF := Lib.hid (fun (r : Nat) (hr : w.heap.size ≤ r) => H.free hr)
  have hsl := H.lt
  clear hi hj
  go_enter Try.func11, Try.ntmps11
  go_wp2_with fail
  refine (HS.find w (Below.refl _ _)).mono ?_
  rintro r1 w1 ⟨rfl, rfl⟩
  go_wp2_with fail
  refine (HS'.find w (Below.refl _ _)).mono ?_
  rintro r1 w1 ⟨rfl, rfl⟩
  go_wp2_with fail
  refine (HS.now w (Below.refl _ _)).mono ?_
  rintro r2 u1 ⟨rfl, b1⟩
  go_wp2_with fail
  refine (HS'.now u1 b1).mono ?_
  rintro r2 u2 ⟨rfl, b2⟩
  have bo := b1.trans (b2.mono b1.size)
  go_wp2_with (first
    | (refine wpList_alloc_blk (w := u2) rfl 73 rfl #[.int .i64 0, .bool false, .slice none 0 0] (by kernel_rfl) ?_; intro u3 qu3 gu3 zu3; have bo : Below w.heap.size w u3 := bo.grown gu3 bo.size (by simp))
    | (refine wpList_alloc_blk (w := u3) rfl 73 rfl #[.int .i64 0, .bool false, .slice none 0 0] (by kernel_rfl) ?_; intro u4 qu4 gu4 zu4; have bo : Below w.heap.size w u4 := bo.grown gu4 bo.size (by simp); have qu3 := qu3.grown gu4 (by simp))
    | (refine wpList_store_blk (w := u4) rfl 73 _ _ rfl u2.heap.size 3 rfl 73 _ #[.int .i64 t, .bool true, .slice x.A x.n x.c] rfl qu3 (by kernel_rfl) rfl rfl (by kernel_rfl) ?_; intro u5 qa g5 z5; have bo : Below w.heap.size w u5 := bo.grown g5 bo.size (fun r e => by cases e; exact Nat.le_trans b1.size b2.size); have qu4 := qu4.grown g5 (by intro e; injection e with e; have := zu3.out; omega))
    | (refine wpList_store_blk (w := u5) rfl 73 _ _ rfl u3.heap.size 3 rfl 73 _ #[.int .i64 t', .bool true, .slice x'.A x'.n x'.c] rfl qu4 (by kernel_rfl) rfl rfl (by kernel_rfl) ?_; intro u6 qb g6 z6; have bo : Below w.heap.size w u6 := bo.grown g6 bo.size (fun r e => by cases e; have := zu3.out; have := b1.size; have := b2.size; omega); have qa := Blk.grown qa g6 (by intro e; injection e with e; have := zu3.out; omega); have ha1 := qa.cell (i := 1) rfl; have hb1 := qb.cell (i := 1) rfl))
  go_wp2_with fail
  have hlt5 := qa.lt
  have hlt6 := qb.lt
  have hcs6 := HWC.out u6 bo
  have hsl6 : s < u6.heap.size := Nat.lt_of_lt_of_le hsl bo.size
  have HSH5 := Lib.hid (HSH5.out u6)
  have HSH5 := Lib.hid (fun (w' : World) => HSH5.out w' bo)
  refine wp_region_bar (T := fun W => Below u6.heap.size u6 W) (s := 6) (by kernel_rfl) ?_
  change wpAnyB _ _ _ _ _ _ _ _ _ u6.drew
  have T0 : Below u6.heap.size u6 u6.drew := (Below.refl _ _).drew
  refine Held.takeB (v := .pointer (some ⟨e.h, 0, none⟩)) 0 (some 29) [6] rfl rfl (by kernel_rfl) (by kernel_rfl) (by kernel_rfl) (by kernel_rfl) (fun _ _ _ h => h) rfl (Held.y_move rfl rfl) T0 ?_
  simp only [Act.put, Z1, Z2, Z3]
  refine Held.takeB (v := .pointer (some ⟨s, 0, none⟩)) 1 (some 30) [2, 3, 4, 6] rfl rfl (by kernel_rfl) (by kernel_rfl) (by kernel_rfl) (by kernel_rfl) (fun _ _ _ h => h) rfl (Held.y_move rfl rfl) T0 ?_
  simp only [Act.put, Z1, Z2, Z3]
  refine Held.takeB (v := .pointer (some ⟨s, 0, none⟩)) 2 (some 31) [3, 4, 6] rfl rfl (by kernel_rfl) (by kernel_rfl) (by kernel_rfl) (by kernel_rfl) (fun _ _ _ h => h) rfl (Sl.y_nil rfl rfl) T0 ?_
  simp only [Act.put, Z1, Z2, Z3]
  refine Held.takeB (v := .pointer (some ⟨s, 1, none⟩)) 3 (some 32) [4, 6] rfl rfl (by kernel_rfl) (by kernel_rfl) (by kernel_rfl) (by kernel_rfl) (fun _ _ _ h => h) rfl (Held.y_field (k := 1) (s := 0) rfl rfl Try.underlying64 rfl (by kernel_rfl) rfl) T0 ?_
  simp only [Act.put, Z1, Z2, Z3]
  refine Held.takeB (v := .int .i64 W) 4 (some 33) [6] rfl rfl (by kernel_rfl) (by kernel_rfl) (by kernel_rfl) (by kernel_rfl) (fun _ _ _ h => h) rfl (Held.y_load rfl rfl (by kernel_rfl) (fun W hW => (hW.cell (p := ⟨s, 1, none⟩) hsl6).trans hcs6)) T0 ?_
  simp only [Act.put, Z1, Z2, Z3]
  refine Held.takeB (v := .agg #[.int .i64 t', .bool true, .slice x'.A x'.n x'.c]) 5 (some 34) [6] rfl rfl (by kernel_rfl) (by kernel_rfl) (by kernel_rfl) (by kernel_rfl) (fun _ _ _ h => h) rfl (Held.y_load_blk (n := 3) rfl rfl Try.underlying73 rfl (by kernel_rfl) rfl (fun W hW => qb.below hW hlt6)) T0 ?_
  simp only [Act.put, Z1, Z2, Z3]
  refine Held.oneB 6 (by kernel_rfl) ?_
  refine Held.op_call 6 (some 35) 33 #[.pointer (some ⟨e.h, 0, none⟩), .int .i64 W, .agg #[.int .i64 t', .bool true, .slice x'.A x'.n x'.c]] rfl rfl rfl rfl (enters_of Try.func33 (by kernel_rfl) rfl) (by simp [Act.eval])
    (HSH5.out _ T0) ?_
  rintro r2 w2 ⟨rfl, ow2, H2, C2⟩
  refine ⟨_, rfl, fun h => (by cases h.symm.trans (show _ = true by kernel_rfl)), ?_⟩
  simp only [Act.put, Z1, Z2, Z3]
  refine Held.doneB (by kernel_rfl) ?_ _
  have hdr := (Below.refl u6.heap.size u6).drew
  have h5 : Blk w2 u2.heap.size 73 #[.int .i64 t, .bool true, .slice x.A x.n x.c] := C2.keep.block _ _ (by show ow _ ≤ 1; rw [HF.out _ (Nat.le_trans b1.size b2.size)]; omega) (qa.below hdr hlt5)
  have hcs7 := H2.writesCell (Below.refl _ _)
  have hsl7 := H2.lt
  have hlt7 := h5.lt
  obtain ⟨hi, hj⟩ := HIJ.out
  obtain ⟨e2, hj2, hh2, hk2⟩ : ∃ e2 : Ent, (es.set i { e with us := showC W ⟨t', true, x'⟩ e.us })[j]? = some e2 ∧ e2.h = e'.h ∧ e2.k = e'.k := by
    rw [List.getElem?_set]
    by_cases hij : i = j
    · subst hij
      rw [if_pos rfl, if_pos hil]
      rw [hi] at hj
      injection hj with hj
      exact ⟨_, rfl, by rw [← hj], by rw [← hj]⟩
    · rw [if_neg hij]
      exact ⟨e', hj, rfl, rfl⟩
  have HTT := Lib.hid (And.intro (H.turned hi W ⟨t', true, x'⟩) (H2.turned hj2 W ⟨t, true, x⟩))
  have HSH := Lib.hid (fun (w' : World) (h : Below w2.heap.size w2 w') => show_any (H2.below h) hj2 (t := W) (v := ⟨t, true, x⟩) (H.wfW (by omega)) (((C2.rd ((H.below bo).below hdr).low ((HS.rd.keep (KeepsP.of_below bo)).keep (KeepsP.of_below hdr)))).keep (KeepsP.of_below h)) (by omega))
  rw [hh2] at HSH HTT
  clear hi hj hj2
  go_wp2_with fail
  refine wp_region_bar (T := fun W => Below w2.heap.size w2 W) (s := 6) (by kernel_rfl) ?_
  change wpAnyB _ _ _ _ _ _ _ _ _ w2.drew
  have T0 : Below w2.heap.size w2 w2.drew := (Below.refl _ _).drew
  refine Held.takeB (v := .pointer (some ⟨e'.h, 0, none⟩)) 0 (some 36) [6] rfl rfl (by kernel_rfl) (by kernel_rfl) (by kernel_rfl) (by kernel_rfl) (fun _ _ _ h => h) rfl (Held.y_move rfl rfl) T0 ?_
  simp only [Act.put, Z1, Z2, Z3]
  refine Held.takeB (v := .pointer (some ⟨s, 0, none⟩)) 1 (some 37) [2, 3, 4, 6] rfl rfl (by kernel_rfl) (by kernel_rfl) (by kernel_rfl) (by kernel_rfl) (fun _ _ _ h => h) rfl (Held.y_move rfl rfl) T0 ?_
  simp only [Act.put, Z1, Z2, Z3]
  refine Held.takeB (v := .pointer (some ⟨s, 0, none⟩)) 2 (some 38) [3, 4, 6] rfl rfl (by kernel_rfl) (by kernel_rfl) (by kernel_rfl) (by kernel_rfl) (fun _ _ _ h => h) rfl (Sl.y_nil rfl rfl) T0 ?_
  simp only [Act.put, Z1, Z2, Z3]
  refine Held.takeB (v := .pointer (some ⟨s, 1, none⟩)) 3 (some 39) [4, 6] rfl rfl (by kernel_rfl) (by kernel_rfl) (by kernel_rfl) (by kernel_rfl) (fun _ _ _ h => h) rfl (Held.y_field (k := 1) (s := 0) rfl rfl Try.underlying64 rfl (by kernel_rfl) rfl) T0 ?_
  simp only [Act.put, Z1, Z2, Z3]
  refine Held.takeB (v := .int .i64 W) 4 (some 40) [6] rfl rfl (by kernel_rfl) (by kernel_rfl) (by kernel_rfl) (by kernel_rfl) (fun _ _ _ h => h) rfl (Held.y_load rfl rfl (by kernel_rfl) (fun W hW => (hW.cell (p := ⟨s, 1, none⟩) hsl7).trans hcs7)) T0 ?_
  simp only [Act.put, Z1, Z2, Z3]
  refine Held.takeB (v := .agg #[.int .i64 t, .bool true, .slice x.A x.n x.c]) 5 (some 41) [6] rfl rfl (by kernel_rfl) (by kernel_rfl) (by kernel_rfl) (by kernel_rfl) (fun _ _ _ h => h) rfl (Held.y_load_blk (n := 3) rfl rfl Try.underlying73 rfl (by kernel_rfl) rfl (fun W hW => h5.below hW hlt7)) T0 ?_
  simp only [Act.put, Z1, Z2, Z3]
  refine Held.oneB 6 (by kernel_rfl) ?_
  refine Held.op_call 6 (some 42) 33 #[.pointer (some ⟨e'.h, 0, none⟩), .int .i64 W, .agg #[.int .i64 t, .bool true, .slice x.A x.n x.c]] rfl rfl rfl rfl (enters_of Try.func33 (by kernel_rfl) rfl) (by simp [Act.eval])
    (HSH.out _ T0) ?_
  rintro r2 w3 ⟨rfl, ow3, H3, C3⟩
  refine ⟨_, rfl, fun h => (by cases h.symm.trans (show _ = true by kernel_rfl)), ?_⟩
  simp only [Act.put, Z1, Z2, Z3]
  refine Held.doneB (by kernel_rfl) ?_ _
  go_wp2_with fail
  go_ret
  obtain ⟨T1, T2⟩ := HTT.out
  refine ⟨rfl, ow3, _, H3, (Chg.below (bo.trans (hdr.mono bo.size)) ow).trans (C2.trans ((Chg.below ((Below.refl _ _).drew) ow2).trans C3)), ?_⟩
  rw [T2, T1, hk2]
theorem replay_no {S0 : Value} {w : World} {k : Nm} {n c : Int} (H : Calls Try.prog 29 #[S0, encStr k] w fun r w' => r = .returned (.int .i64 c) ∧ w = w') (hn : n < 0 ∨ c ≤ n) :
    Calls Try.prog 9 #[S0, encStr k, .int .i64 n] w fun r w' => r = .returned (.bool false) ∧ w = w' := by
  by_cases h0 : n < 0
  · clear hn
    go_enter Try.func9, Try.ntmps9
    go_wp2_with fail
    go_ret
    exact ⟨rfl, rfl⟩
  · have h1 : c ≤ n := hn.resolve_left h0
    have HG := Lib.hid (show decide (c ≤ n) = true from decide_eq_true h1)
    clear hn h1
    go_enter Try.func9, Try.ntmps9
    go_wp2_with fail
    refine H.mono ?_
    rintro r1 w1 ⟨rfl, rfl⟩
    go_wp2_with (refine Held.wpList_run (w := w) rfl (v := .bool true) (y_geqI (S := fun _ => True) _ _ rfl rfl rfl HG.out _ trivial) ?_)
    go_ret
    exact ⟨rfl, rfl⟩
set_option maxRecDepth 100000 in
set_option maxHeartbeats 8000000 in
theorem replay_yes {ow : Nat → Nat} {w : World} {s N : Nat} {W : Int} {es : List Ent} (H : Sto ow w s W N es) {i m : Nat} {e : Ent} {x : Bs} (hi : es[i]? = some e) (hx : e.vs[m]? = some x) (hN : N ≤ 900000) :
    Calls Try.prog 9 #[.pointer (some ⟨s, 0, none⟩), encStr e.k, .int .i64 (m : Int)] w fun r w' => r = .returned (.bool true) ∧ ∃ ow' es', Sto ow' w' s W (N + 1) es' ∧ Chg ow ow' w w' ∧ absL es' = modP e.k (shwF W ⟨0, true, x.zs⟩) (absL es) := by
  have hm := List.mem_of_getElem? hi
  have hml := (List.getElem?_eq_some_iff.1 hx).1
  obtain ⟨_, vv, ww, hb, hv, _, _⟩ := H.hist e hm
  obtain ⟨A, n, c, rfl, hn, hnc, _⟩ := hv.form2
  obtain ⟨g, rfl, hn2⟩ := own_some hv (by omega)
  have hd : e.vs.getD m kB.d = x := by rw [List.getD_eq_getElem?_getD, hx]; rfl
  have HR := own_range hv (i := m) hml
  rw [hd] at HR
  have hgl : g < w.heap.size := (OwnL.lt hv g rfl).2
  have hcell := Lib.hid (show w.cell? ⟨g, 0 + m * 1, none⟩ = some (.slice x.A x.n x.c) from HR 0 _ rfl)
  have hmn : m < n := by omega
  have HG := Lib.hid (show decide ((n : Int) ≤ (m : Int)) = false by simp; omega)
  have HX := Lib.hid ((H.bytes e hm).vs x (List.mem_of_getElem? hx))
  have hlt := hb.lt
  have HV := Lib.hid (versions_some H hm)
  rw [hn.out] at HV
  have hcs := H.writesCell (Below.refl _ _)
  have hsl := H.lt
  have HI := Lib.hid hi
  have m0 : ¬ ((m : Int) < 0) := by omega
  clear hv hn hn2 hd HR hx hml hi
  go_enter Try.func9, Try.ntmps9
  go_wp2_with fail
  refine HV.out.mono ?_
  rintro r1 w1 ⟨rfl, rfl⟩
  go_wp2_with (refine Held.wpList_run (w := w) rfl (v := .bool false) (y_geqI (S := fun _ => True) _ _ rfl rfl rfl HG.out _ trivial) ?_)
  refine (find_some H hm).mono ?_
  rintro r1 w1 ⟨rfl, rfl⟩
  go_wp2_with fail
  refine wp_region_bar (T := fun W => Below w.heap.size w W) (s := 13) (by kernel_rfl) ?_
  change wpAnyB _ _ _ _ _ _ _ _ _ w.drew
  have T0 : Below w.heap.size w w.drew := (Below.refl _ _).drew
  refine Held.takeB (v := .pointer (some ⟨e.h, 0, none⟩)) 0 (some 20) [13] rfl rfl (by kernel_rfl) (by kernel_rfl) (by kernel_rfl) (by kernel_rfl) (fun _ _ _ h => h) rfl (Held.y_move rfl rfl) T0 ?_
  simp only [Act.put, Z1, Z2, Z3]
  refine Held.takeB (v := .pointer (some ⟨s, 0, none⟩)) 1 (some 21) [2, 3, 4, 13] rfl rfl (by kernel_rfl) (by kernel_rfl) (by kernel_rfl) (by kernel_rfl) (fun _ _ _ h => h) rfl (Held.y_move rfl rfl) T0 ?_
  simp only [Act.put, Z1, Z2, Z3]
  refine Held.takeB (v := .pointer (some ⟨s, 0, none⟩)) 2 (some 22) [3, 4, 13] rfl rfl (by kernel_rfl) (by kernel_rfl) (by kernel_rfl) (by kernel_rfl) (fun _ _ _ h => h) rfl (Sl.y_nil rfl rfl) T0 ?_
  simp only [Act.put, Z1, Z2, Z3]
  refine Held.takeB (v := .pointer (some ⟨s, 1, none⟩)) 3 (some 23) [4, 13] rfl rfl (by kernel_rfl) (by kernel_rfl) (by kernel_rfl) (by kernel_rfl) (fun _ _ _ h => h) rfl (Held.y_field (k := 1) (s := 0) rfl rfl Try.underlying64 rfl (by kernel_rfl) rfl) T0 ?_
  simp only [Act.put, Z1, Z2, Z3]
  refine Held.takeB (v := .int .i64 W) 4 (some 24) [13] rfl rfl (by kernel_rfl) (by kernel_rfl) (by kernel_rfl) (by kernel_rfl) (fun _ _ _ h => h) rfl (Held.y_load rfl rfl (by kernel_rfl) (fun W hW => (hW.cell (p := ⟨s, 1, none⟩) hsl).trans hcs)) T0 ?_
  simp only [Act.put, Z1, Z2, Z3]
  refine Held.takeB (v := .pointer (some ⟨e.h, 0, none⟩)) 5 (some 25) [6, 7, 8, 10, 11, 12, 13] rfl rfl (by kernel_rfl) (by kernel_rfl) (by kernel_rfl) (by kernel_rfl) (fun _ _ _ h => h) rfl (Held.y_move rfl rfl) T0 ?_
  simp only [Act.put, Z1, Z2, Z3]
  refine Held.takeB (v := .pointer (some ⟨e.h, 0, none⟩)) 6 (some 26) [7, 8, 10, 11, 12, 13] rfl rfl (by kernel_rfl) (by kernel_rfl) (by kernel_rfl) (by kernel_rfl) (fun _ _ _ h => h) rfl (Sl.y_nil rfl rfl) T0 ?_
  simp only [Act.put, Z1, Z2, Z3]
  refine Held.takeB (v := .pointer (some ⟨e.h, 0, none⟩)) 7 (some 27) [8, 10, 11, 12, 13] rfl rfl (by kernel_rfl) (by kernel_rfl) (by kernel_rfl) (by kernel_rfl) (fun _ _ _ h => h) rfl (Held.y_field (k := 0) (s := 0) rfl rfl Try.underlying71 rfl (by kernel_rfl) rfl) T0 ?_
  simp only [Act.put, Z1, Z2, Z3]
  refine Held.takeB (v := .slice (some ⟨g, 0, none⟩) n c) 8 (some 28) [10, 11, 12, 13] rfl rfl (by kernel_rfl) (by kernel_rfl) (by kernel_rfl) (by kernel_rfl) (fun _ _ _ h => h) rfl (Held.y_load rfl rfl (by kernel_rfl) (fun W hW => (hb.below hW hlt).cell rfl)) T0 ?_
  simp only [Act.put, Z1, Z2, Z3]
  refine Held.takeB (v := .int .i64 (m : Int)) 9 (some 29) [10, 11, 12, 13] rfl rfl (by kernel_rfl) (by kernel_rfl) (by kernel_rfl) (by kernel_rfl) (fun _ _ _ h => h) rfl (Held.y_move rfl rfl) T0 ?_
  simp only [Act.put, Z1, Z2, Z3]
  refine Held.takeB (v := .pointer (some ⟨g, 0 + m * 1, none⟩)) 10 (some 30) [11, 12, 13] rfl rfl (by kernel_rfl) (by kernel_rfl) (by kernel_rfl) (by kernel_rfl) (fun _ _ _ h => h) rfl (Held.y_addr rfl rfl rfl (fun W => Rs.run_addr_of (P := Try.prog) 68 31 g 0 n c m 1 .i64 Try.underlying68 (by kernel_rfl) (hmn) W)) T0 ?_
  simp only [Act.put, Z1, Z2, Z3]
  refine Held.takeB (v := .slice x.A x.n x.c) 11 (some 31) [12, 13] rfl rfl (by kernel_rfl) (by kernel_rfl) (by kernel_rfl) (by kernel_rfl) (fun _ _ _ h => h) rfl (Held.y_load rfl rfl (by kernel_rfl) (fun W hW => (hW.cell (p := ⟨g, 0 + m * 1, none⟩) hgl).trans hcell.out)) T0 ?_
  simp only [Act.put, Z1, Z2, Z3]
  refine Held.takeB (v := .agg #[.int .i64 0, .bool true, .slice x.A x.n x.c]) 12 (some 32) [13] rfl rfl (by kernel_rfl) (by kernel_rfl) (by kernel_rfl) (by kernel_rfl) (fun _ _ _ h => h) rfl (Held.y_build rfl (by kernel_rfl)) T0 ?_
  simp only [Act.put, Z1, Z2, Z3]
  refine Held.oneB 13 (by kernel_rfl) ?_
  refine Held.op_call 13 (some 33) 33 #[.pointer (some ⟨e.h, 0, none⟩), .int .i64 W, .agg #[.int .i64 0, .bool true, .slice x.A x.n x.c]] rfl rfl rfl rfl (enters_of Try.func33 (by kernel_rfl) rfl) (by simp [Act.eval])
    (show_any (H.below T0) HI.out (t := W) (v := ⟨0, true, x⟩) (H.wfW (by omega)) (HX.out.keep (KeepsP.of_below T0)) (by omega)) ?_
  rintro r2 w2 ⟨rfl, ow2, H2, C2⟩
  refine ⟨_, rfl, fun h => (by cases h.symm.trans (show _ = true by kernel_rfl)), ?_⟩
  simp only [Act.put, Z1, Z2, Z3]
  refine Held.doneB (by kernel_rfl) ?_ _
  go_wp2_with fail
  go_ret
  exact ⟨rfl, ow2, _, H2, (Chg.below ((Below.refl _ _).drew) ow).trans C2, H.turned HI.out W ⟨0, true, x⟩⟩
end Go.Proofs.Ytbippmbcgkicaaa.Sto
namespace Go.Proofs.Ytbippmbcgkicaaa.Sto
open Go.RowKit Go.Shelf Go.Proofs.Ytbippmbcgkicaaa Mem Held Sl Go.Proofs.Ytbippmbcgkicaaa.Range
attribute [local irreducible] wpList wpListIn Calls
section
variable {P : Program} {S : World → Prop} {ρ : Operand → Value} {o : Oper}
theorem y_quoI (a b : Int) {t ty : TypeId} {x y : Operand} {k : IntKind} {r : Int} (ho : o.op = .binOp .quo t x y ty) (hx : ρ x = .int k a) (hy : ρ y = .int k b) (hb : b ≠ 0) (hr : k.wrap (a.tdiv b) = r) : ∀ w, S w → (execOp ρ o).run P w = .ok (.value (.int k r)) w := Held.y_int ho hx hy (Held.run_quo t k hb hr)
theorem y_mulI (a b : Int) {t ty : TypeId} {x y : Operand} {k : IntKind} {r : Int} (ho : o.op = .binOp .mul t x y ty) (hx : ρ x = .int k a) (hy : ρ y = .int k b) (hr : k.wrap (a * b) = r) : ∀ w, S w → (execOp ρ o).run P w = .ok (.value (.int k r)) w := Held.y_int ho hx hy (fun w => by simp [binOp, Op.intArith, hr])
theorem y_remI (a b : Int) {t ty : TypeId} {x y : Operand} {k : IntKind} {r : Int} (ho : o.op = .binOp .rem t x y ty) (hx : ρ x = .int k a) (hy : ρ y = .int k b) (hb : b ≠ 0) (hr : a.tmod b = r) : ∀ w, S w → (execOp ρ o).run P w = .ok (.value (.int k r)) w := Held.y_int ho hx hy (Held.run_rem t k hb hr)
end
section
variable {P : Program} {ops : Array Oper} {Q : Exit → Act → World → Prop} {o : Oper} {a : Act} {w : World}
theorem op_store_Own (i : Nat) (d : Option Tmp) {K : Act → World → Prop} (ty : TypeId) {x y : Operand} (base g n c off j : Nat) (z : Int) (t : TypeId) (k : IntKind) {zs : List Int} (hi : ops[i]? = some o) (hd : o.dst = d) (hw : Region.wanted o (yielded ops a.tmps) = true)
    (ho : o.op = .store ty x y) (hx : a.eval x = .pointer (some ⟨g, off, none⟩)) (hoff : off = j) (hy : a.eval y = .int k z) (hsz : (P.info? ty).map (·.size) = some 1) (hown : Mem.Own w base t k (.slice (some ⟨g, 0, none⟩) n c) zs) (hj : j < zs.length) (hz : (Lit.int k z).wf = true)
    (h : ∀ w', Mem.Own w' base t k (.slice (some ⟨g, 0, none⟩) n c) (zs.set j z) → w.grownBy w' (some g) → K (a.put d undef) w') : wpOp P ops Q i K a w := by
  subst hd
  subst hoff
  obtain ⟨g', c', e, _, _, _, _, hc, hf⟩ := hown.at_ (by omega)
  injection e with e1 e2 e3
  injection e1 with e1
  injection e1 with e1
  subst e1
  subst e2
  refine op_wp i hi hw ?_
  unfold Oper.wp execOp
  simp only [ho, hx, hy, Instr.storeAt, Instr.sureAddr, Sem.run_bind, Sem.run_pure, Result.andThen_ok, run_store_elem ty g off _ (.int k z) (hc off hj) (hf off) hsz rfl rfl]
  exact h _ (hown.set off hz) (grown_setCell _ _ _ _)
end
section
variable {P : Program} {ops : Array Oper} {rest : List Oper} {o : Oper} {a : Act} {w : World} {Q : Exit → Act → World → Prop}
theorem wpList_build_row1 (hgd : o.guard = none) (ts e : TypeId) (n : Nat) (parts : Array (Nat × Operand)) (ho : o.op = .buildSlice ts n parts) (hu : P.underlying ts = some (.slice e)) (k : IntKind) (bytes : Nat) (hinfo : (P.info? e).map (fun i => (i.zero, i.size, i.bytes)) = some (some (.int k 0), 1, bytes))
    (zs : List Int) (hn : zs.length = n) (hp : (parts.map fun (i, x) => (i, a.eval x)).toList = ((zs.map (Value.int k)).zipIdx 0).map fun x => (x.2, x.1)) (hwf : ∀ z ∈ zs, (Lit.int k z).wf = true) (h0 : 0 < n) (h24 : n ≤ 16777216)
    (h : ∀ w', Row w' w.heap.size e k zs → w.grownBy w' none → Hid (w'.heap.size = w.heap.size + 1) → wpList P ops Q rest (a.put o.dst (.slice (some ⟨w.heap.size, 0, none⟩) n n)) w') : wpList P ops Q (o :: rest) a w := by
  obtain ⟨ie, hie, hz0, hs, hb⟩ := info_parts hinfo
  refine Go.wpList_buildSlice hgd ts e n parts ho (arr k zs) ie _ hu hie hz0 (by rw [hs]; omega) (by rw [hs]; omega) ?_ (h _ ⟨hwf, heap_alloc_new w _⟩ (World.grownBy_alloc w _ none) (Lib.hid (by simp)))
  rw [hp, hs]
  exact Go.Great.fill_flat (zs.map (Value.int k)) _ (fun v hv => by obtain ⟨z, _, rfl⟩ := List.mem_map.1 hv; rfl) (by simp [hn])
end
def turnZ (z : Int) (m : Nat) : Int := bits .xor .u8 z (IntKind.u8.wrap (1 * 2 ^ m))
def flipZ (zs : List Int) (b : Nat) : List Int := zs.set (b / 8) (turnZ (zs.getD (b / 8) 0) (b % 8))
set_option maxRecDepth 100000 in
set_option maxHeartbeats 8000000 in
theorem flip_no {S0 : Value} {w : World} {k : Nm} {bit : Int} {R : Nat → Prop} {p : Option Nat} {v : Vw} (H : Shows S0 w k R p v) (hw : (Lit.int .i64 bit).wf = true) (hb : bit < 0 ∨ (v.x.n : Int) ≤ bit / 8) :
    Calls Try.prog 17 #[S0, encStr k, .int .i64 bit] w fun r w' => r = .returned (.bool false) ∧ Below w.heap.size w w' := by
  have hbw := wf_i64 hw
  clear hw
  by_cases h0 : bit < 0
  · clear hb
    go_enter Try.func17, Try.ntmps17
    go_wp2_with fail
    refine (H.find w (Below.refl _ _)).mono ?_
    rintro r1 w1 ⟨rfl, rfl⟩
    go_wp2_with fail
    refine (H.now w (Below.refl _ _)).mono ?_
    rintro r2 u2 ⟨rfl, b2⟩
    go_wp2_with (first
      | (refine wpList_alloc_blk (w := u2) rfl 73 rfl #[.int .i64 0, .bool false, .slice none 0 0] (by kernel_rfl) ?_; intro u3 qu3 gu3 zu3; have bo3 : Below w.heap.size w u3 := b2.grown gu3 b2.size (by simp))
      | (refine wpList_store_blk (w := u3) rfl 73 _ _ rfl u2.heap.size 3 rfl 73 _ #[.int .i64 v.t, .bool v.is, .slice v.x.A v.x.n v.x.c] rfl qu3 (by kernel_rfl) rfl rfl (by kernel_rfl) ?_; intro u4 q4 g4 z4; have bo : Below w.heap.size w u4 := bo3.grown g4 bo3.size (fun r e => by cases e; exact b2.size); have hlt4 := q4.lt; have hcx := q4.cell (i := 2) rfl))
    go_ret
    exact ⟨rfl, bo⟩
  · obtain ⟨b, rfl⟩ : ∃ b : Nat, bit = (b : Int) := ⟨bit.toNat, by omega⟩
    have h1 := hb.resolve_left h0
    have HQ := Lib.hid (show IntKind.i64.wrap ((b : Int).tdiv 8) = ((b / 8 : Nat) : Int) by rw [Int.tdiv_eq_ediv_of_nonneg (by omega)]; simp [IntKind.wrap_i64]; omega)
    have HG := Lib.hid (show decide ((v.x.n : Int) ≤ ((b / 8 : Nat) : Int)) = true by simp; omega)
    clear hb h1 hbw
    go_enter Try.func17, Try.ntmps17
    go_wp2_with fail
    refine (H.find w (Below.refl _ _)).mono ?_
    rintro r1 w1 ⟨rfl, rfl⟩
    go_wp2_with fail
    refine (H.now w (Below.refl _ _)).mono ?_
    rintro r2 u2 ⟨rfl, b2⟩
    go_wp2_with (first
      | (refine wpList_alloc_blk (w := u2) rfl 73 rfl #[.int .i64 0, .bool false, .slice none 0 0] (by kernel_rfl) ?_; intro u3 qu3 gu3 zu3; have bo3 : Below w.heap.size w u3 := b2.grown gu3 b2.size (by simp))
      | (refine wpList_store_blk (w := u3) rfl 73 _ _ rfl u2.heap.size 3 rfl 73 _ #[.int .i64 v.t, .bool v.is, .slice v.x.A v.x.n v.x.c] rfl qu3 (by kernel_rfl) rfl rfl (by kernel_rfl) ?_; intro u4 q4 g4 z4; have bo : Below w.heap.size w u4 := bo3.grown g4 bo3.size (fun r e => by cases e; exact b2.size); have hlt4 := q4.lt; have hcx := q4.cell (i := 2) rfl)
      | (refine Held.wpList_run (w := u4) rfl (v := .int .i64 ((b / 8 : Nat) : Int)) (y_quoI (S := fun _ => True) _ _ rfl rfl rfl (by decide) HQ.out _ trivial) ?_)
      | (refine Held.wpList_run (w := u4) rfl (v := .bool true) (y_geqI (S := fun _ => True) _ _ rfl rfl rfl HG.out _ trivial) ?_))
    go_ret
    exact ⟨rfl, bo⟩
set_option maxRecDepth 100000 in
set_option maxHeartbeats 16000000 in
theorem flip_yes {ow : Nat → Nat} {w : World} {s N : Nat} {W : Int} {es : List Ent} (H : Sto ow w s W N es) {i b : Nat} {e : Ent} {v : Vw} (HS : Shows (.pointer (some ⟨s, 0, none⟩)) w e.k (fun r => ow r = 1) (some e.h) v) (hi : es[i]? = some e) (hw : (Lit.int .i64 (b : Int)).wf = true) (hb : b / 8 < v.x.n) (hN : N ≤ 1000000) :
    Calls Try.prog 17 #[.pointer (some ⟨s, 0, none⟩), encStr e.k, .int .i64 (b : Int)] w fun r w' => r = .returned (.bool true) ∧ ∃ ow' es', Sto ow' w' s W (N + 1) es' ∧ Chg ow ow' w w' ∧ absL es' = modP e.k (shwF W ⟨0, true, flipZ v.x.zs b⟩) (absL es) := by
  have hbw := wf_i64 hw
  have HQ := Lib.hid (show IntKind.i64.wrap ((b : Int).tdiv 8) = ((b / 8 : Nat) : Int) by rw [Int.tdiv_eq_ediv_of_nonneg (by omega)]; simp [IntKind.wrap_i64]; omega)
  have HG := Lib.hid (show decide ((v.x.n : Int) ≤ ((b / 8 : Nat) : Int)) = false by simp; omega)
  have HR := Lib.hid (show (b : Int).tmod 8 = ((b % 8 : Nat) : Int) by rw [Int.tmod_eq_emod_of_nonneg (by omega)]; omega)
  have HRD := Lib.hid (fun (w' : World) (h : Below w.heap.size w w') => HS.rd.keep (KeepsP.of_below (S := fun r => ow r = 1) h))
  have m0 : ¬ ((b : Int) < 0) := by omega
  have HQL := Lib.hid hb
  clear hbw hw hb
  go_enter Try.func17, Try.ntmps17
  go_wp2_with fail
  refine (HS.find w (Below.refl _ _)).mono ?_
  rintro r1 w1 ⟨rfl, rfl⟩
  go_wp2_with fail
  refine (HS.now w (Below.refl _ _)).mono ?_
  rintro r2 u2 ⟨rfl, b2⟩
  go_wp2_with (first
    | (refine wpList_alloc_blk (w := u2) rfl 73 rfl #[.int .i64 0, .bool false, .slice none 0 0] (by kernel_rfl) ?_; intro u3 qu3 gu3 zu3; have bo3 : Below w.heap.size w u3 := b2.grown gu3 b2.size (by simp))
    | (refine wpList_store_blk (w := u3) rfl 73 _ _ rfl u2.heap.size 3 rfl 73 _ #[.int .i64 v.t, .bool v.is, .slice v.x.A v.x.n v.x.c] rfl qu3 (by kernel_rfl) rfl rfl (by kernel_rfl) ?_; intro u4 q4 g4 z4; have bo : Below w.heap.size w u4 := bo3.grown g4 bo3.size (fun r e => by cases e; exact b2.size); have hlt4 := q4.lt; have hcx := q4.cell (i := 2) rfl)
    | (refine Held.wpList_run (w := u4) rfl (v := .int .i64 ((b / 8 : Nat) : Int)) (y_quoI (S := fun _ => True) _ _ rfl rfl rfl (by decide) HQ.out _ trivial) ?_)
    | (refine Held.wpList_run (w := u4) rfl (v := .bool false) (y_geqI (S := fun _ => True) _ _ rfl rfl rfl HG.out _ trivial) ?_))
  refine (copied_any (HRD.out u4 bo)).mono ?_
  rintro r3 u5 ⟨y, rfl, hyz, hyo, hyr, b5⟩
  obtain ⟨A, n, c, zs⟩ := y
  simp only at hyz hyo ⊢
  have hln := hyr.len
  have HLN := Lib.hid hln
  simp only at HLN
  subst hyz
  have hlx := HS.rd.len
  have hqn : b / 8 < n := by have h1 : v.x.zs.length = n := hln; have := HQL.out; omega
  obtain ⟨g, c', e0, hgb, hgl, _, _, hcl, _⟩ := hyo.at_ (by have h1 : v.x.zs.length = n := hln; omega)
  injection e0 with e1 e2 e3
  subst e1
  have hcell := Lib.hid (show u5.cell? ⟨g, 0 + b / 8, none⟩ = some (.int .u8 (v.x.zs.getD (b / 8) 0)) by rw [Nat.zero_add]; exact hcl _ (by omega))
  have HZ := Lib.hid (show v.x.zs.set (b / 8) (turnZ (v.x.zs.getD (b / 8) 0) (b % 8)) = flipZ v.x.zs b from rfl)
  generalize v.x.zs.getD (b / 8) 0 = z at hcell HZ
  have bo5 : Below w.heap.size w u5 := bo.trans (b5.mono bo.size)
  have hyo := hyo.less bo.size
  clear hcl e2 e3 hln hyr
  go_wp2_with fail
  refine wp_region_bar (T := fun W => Below u5.heap.size u5 W) (s := 10) (by kernel_rfl) ?_
  change wpAnyB _ _ _ _ _ _ _ _ _ u5.drew
  have T0 : Below u5.heap.size u5 u5.drew := (Below.refl _ _).drew
  refine Held.takeB (v := .slice (some ⟨g, 0, none⟩) n c) 0 (some 28) [10] rfl rfl (by kernel_rfl) (by kernel_rfl) (by kernel_rfl) (by kernel_rfl) (fun _ _ _ h => h) rfl (Held.y_move rfl rfl) T0 ?_
  simp only [Act.put, Z1, Z2, Z3]
  refine Held.takeB (v := .int .i64 (b : Int)) 1 (some 29) [10] rfl rfl (by kernel_rfl) (by kernel_rfl) (by kernel_rfl) (by kernel_rfl) (fun _ _ _ h => h) rfl (Held.y_move rfl rfl) T0 ?_
  simp only [Act.put, Z1, Z2, Z3]
  refine Held.takeB (v := .int .i64 ((b / 8 : Nat) : Int)) 2 (some 30) [10] rfl rfl (by kernel_rfl) (by kernel_rfl) (by kernel_rfl) (by kernel_rfl) (fun _ _ _ h => h) rfl (y_quoI _ _ rfl rfl rfl (by decide) HQ.out) T0 ?_
  simp only [Act.put, Z1, Z2, Z3]
  refine Held.takeB (v := .pointer (some ⟨g, 0 + b / 8, none⟩)) 3 (some 31) [10] rfl rfl (by kernel_rfl) (by kernel_rfl) (by kernel_rfl) (by kernel_rfl) (fun _ _ _ h => h) rfl (Held.y_addr rfl rfl rfl (fun W => Held.run_addr_slice (P := Try.prog) 31 5 g 0 n c (b / 8) .i64 Try.underlying31 (by kernel_rfl) hqn W)) T0 ?_
  simp only [Act.put, Z1, Z2, Z3]
  refine Held.takeB (v := .int .u8 z) 4 (some 32) [10] rfl rfl (by kernel_rfl) (by kernel_rfl) (by kernel_rfl) (by kernel_rfl) (fun _ _ _ h => h) rfl (Held.y_load rfl rfl (by kernel_rfl) (fun W hW => (hW.cell (p := ⟨g, 0 + b / 8, none⟩) hgl).trans hcell.out)) T0 ?_
  simp only [Act.put, Z1, Z2, Z3]
  refine Held.takeB (v := .int .i64 (b : Int)) 5 (some 33) [10] rfl rfl (by kernel_rfl) (by kernel_rfl) (by kernel_rfl) (by kernel_rfl) (fun _ _ _ h => h) rfl (Held.y_move rfl rfl) T0 ?_
  simp only [Act.put, Z1, Z2, Z3]
  refine Held.takeB (v := .int .i64 ((b % 8 : Nat) : Int)) 6 (some 34) [10] rfl rfl (by kernel_rfl) (by kernel_rfl) (by kernel_rfl) (by kernel_rfl) (fun _ _ _ h => h) rfl (y_remI _ _ rfl rfl rfl (by decide) HR.out) T0 ?_
  simp only [Act.put, Z1, Z2, Z3]
  refine Held.takeB (v := .int .u8 (IntKind.u8.wrap (1 * 2 ^ (b % 8)))) 7 (some 35) [10] rfl rfl (by kernel_rfl) (by kernel_rfl) (by kernel_rfl) (by kernel_rfl) (fun _ _ _ h => h) rfl (Held.y_bin rfl rfl rfl (fun w => by simp [eqGuard]) (Rc.run_shl_ 5 .u8 .i64 (b % 8) (by show b % 8 ≤ 8; omega))) T0 ?_
  simp only [Act.put, Z1, Z2, Z3]
  refine Held.takeB (v := .int .u8 (turnZ z (b % 8))) 8 (some 36) [10] rfl rfl (by kernel_rfl) (by kernel_rfl) (by kernel_rfl) (by kernel_rfl) (fun _ _ _ h => h) rfl (Held.y_int rfl rfl rfl (Held.run_bitop (by simp) 5 .u8 rfl)) T0 ?_
  simp only [Act.put, Z1, Z2, Z3]
  refine Held.takeB (v := .pointer (some ⟨g, 0 + b / 8, none⟩)) 9 (some 37) [10] rfl rfl (by kernel_rfl) (by kernel_rfl) (by kernel_rfl) (by kernel_rfl) (fun _ _ _ h => h) rfl (Held.y_addr rfl rfl rfl (fun W => Held.run_addr_slice (P := Try.prog) 31 5 g 0 n c (b / 8) .i64 Try.underlying31 (by kernel_rfl) hqn W)) T0 ?_
  simp only [Act.put, Z1, Z2, Z3]
  refine Held.oneB 10 (by kernel_rfl) ?_
  refine op_store_Own 10 none 5 w.heap.size g n c (0 + b / 8) (b / 8) (turnZ z (b % 8)) 5 .u8 rfl rfl rfl rfl rfl (by omega) rfl (by kernel_rfl) (hyo.below T0) (by rw [HLN.out]; exact hqn) (wf_bits _ _ _ _) ?_
  intro u6 o6 g6
  refine ⟨fun h => (by cases h.symm.trans (show _ = true by kernel_rfl)), ?_⟩
  simp only [Act.put]
  refine Held.doneB (by kernel_rfl) ?_ _
  have bo6 : Below w.heap.size w u6 := (bo5.trans (T0.mono bo5.size)).grown g6 (Nat.le_trans bo5.size T0.size) (fun r e => by cases e; exact Nat.le_trans bo.size hgb)
  rw [HZ.out] at o6
  have hif : Ints u6 .u8 u6.heap.size (some ⟨g, 0, none⟩) n (flipZ v.x.zs b) := by
    obtain ⟨Af, cf, ef, _, _, hif⟩ := o6.form
    have hlf : (flipZ v.x.zs b).length = n := by have h1 : v.x.zs.length = n := HLN.out; unfold flipZ; rw [List.length_set]; exact h1
    rw [hlf] at ef hif
    injection ef with ef1 _ _
    rw [ef1]
    exact hif
  have hyb : Rd (fun r => w.heap.size ≤ r) u6 (⟨some ⟨g, 0, none⟩, n, c, flipZ v.x.zs b⟩ : Bs) := ⟨hif, by have h1 : v.x.zs.length = n := HLN.out; have := HS.rd.2.1; show n ≤ _; omega, fun b' off p e hn => by injection e with e; injection e with e; rw [← e]; exact Nat.le_trans bo.size hgb⟩
  obtain ⟨ow6, H6, C6, hy6⟩ := H.take bo6 hyb
  have hcs := H6.writesCell (Below.refl _ _)
  go_wp2_with (refine wpList_build_blk rfl 73 #[_, _] rfl #[.int .i64 0, .bool true, .slice (some ⟨g, 0, none⟩) n c] (by kernel_rfl) ?_)
  refine (show_any H6 hi (t := W) (v := ⟨0, true, ⟨some ⟨g, 0, none⟩, n, c, flipZ v.x.zs b⟩⟩) (H.wfW hN) hy6 hN).mono ?_
  rintro r3 u7 ⟨rfl, ow7, H7, C7⟩
  go_wp2_with fail
  go_ret
  exact ⟨rfl, ow7, _, H7, C6.trans C7, H6.turned hi W _⟩
end Go.Proofs.Ytbippmbcgkicaaa.Sto
