/-
  Package store's Names, by its contract: those that show something, by rising bytes, one by one.
  dominohelp.Seq of strings: a list out of an iterator that hands out no more than are wanted, by its contract.
  dominohelp.Plain of two like lists of strings, by its contract.
  The document's store, plain: names by rising bytes, what each shows, and what it has shown by Puts; what all showed ahead of each Put; that it says what package store's says.
-/
import Derived.Test.YtbippmbcgkicaaaB8
import Derived.Sort.OwnSorted
import Derived.Test.YtbippmbcgkicaaaB7
set_option linter.unusedVariables false
namespace Go.Proofs.Ytbippmbcgkicaaa.Sto
open Go.RowKit Go.Shelf Go.Proofs.Ytbippmbcgkicaaa Mem Held Sl Go.Proofs.Ytbippmbcgkicaaa.Range
attribute [local go_sem] Oper.semAt_some
attribute [local irreducible] wpList wpListIn Calls
theorem flat_kS (ss : List Nm) : Sl.flat kS ss = ss.map encStr := by
  unfold Sl.flat
  induction ss with
  | nil => rfl
  | cons p vs ih => rw [List.flatMap_cons, ih]; rfl
def srtS (ss : List Nm) : List Nm := ss.mergeSort fun x y => decide (x ≤ y)
theorem sort_own {A : Option Addr} {n c base : Nat} {ss : List Nm} {w : World} (h : OwnL kS 9 w base (.slice A n c) ss) (hn : n ≤ 1048576) :
    Calls Try.prog 51 #[.slice A n c] w fun e w' => e = .returned (.tuple #[]) ∧ OwnL kS 9 w' base (.slice A n c) (srtS ss) ∧ w.grownBy w' (Value.slice A n c).ownBlock := by
  have hs1 : kS.s = 1 := rfl
  have hl : (srtS ss).length = ss.length := by unfold srtS; simp
  rcases h.2 with ⟨e, h0⟩ | ⟨g, cap, cur, e, hbase, hb, h1, h2, h3, h4⟩
  · injection e with e1 e2 e3
    subst e1 e2 e3
    refine (Try.slices_Sort_string_none none 0 w).mono ?_
    rintro e w' ⟨rfl, rfl⟩
    have : ss = [] := List.eq_nil_of_length_eq_zero h0
    subst this
    exact ⟨rfl, by simpa [srtS] using h, World.grownBy.refl _ _⟩
  · injection e with e1 e2 e3
    subst e1 e2 e3
    by_cases h0 : ss.length = 0
    · have hss : ss = [] := List.eq_nil_of_length_eq_zero h0
      rw [h0] at h ⊢
      refine (Try.slices_Sort_string_none (some ⟨g, 0, none⟩) c w).mono ?_
      rintro e w' ⟨rfl, rfl⟩
      subst hss
      exact ⟨rfl, by simpa [srtS] using h, World.grownBy.refl _ _⟩
    · have h4' : cur.toList.take ss.length = ss.map encStr := by rw [← flat_kS, ← h4, hs1, Nat.mul_one]
      refine (Try.slices_Sort_string g 0 c ss w (holds_of_block hb h4') (Array.getElem?_eq_some_iff.1 hb).1 (by omega)).mono ?_
      rintro e w' ⟨rfl, m, os, rfl⟩
      refine ⟨rfl, ?_, grownBy_sorted _⟩
      have h9 := ownsRow_sorted (n := m) (os := os) (ts := srtS ss) hl hbase hb h1 h2 (by rw [h3, hs1])
      unfold OwnL
      rw [flat_kS, hl, hs1]
      exact h9
theorem sortS_mem (ss : List Nm) (x : Nm) : x ∈ srtS ss ↔ x ∈ ss := (List.mergeSort_perm ss _).mem_iff
theorem sortS_nodup {ss : List Nm} (h : ss.Nodup) : (srtS ss).Nodup := (List.mergeSort_perm ss _).nodup_iff.2 h
theorem sortS_le (ss : List Nm) : (srtS ss).Pairwise (· ≤ ·) := by
  have h := List.pairwise_mergeSort (le := fun x y : Nm => decide (x ≤ y)) (fun a b c h1 h2 => by simp at h1 h2 ⊢; exact List.le_trans h1 h2) (fun a b => by simp; exact List.le_total a b) ss
  exact h.imp fun h => by simpa using h
def NamI (w0 : World) (bn : Nat) (es : List Ent) (pv : Nat → Prop) (rem : List (Nm × Option Nat)) (X : World) : Prop :=
  (∀ y ∈ rem, y ∈ es.map fun e => (e.k, some e.h)) ∧ (rem.map (·.1)).Nodup ∧ ∃ (A : Option Addr) (n c : Nat) (ks : List Nm), Blk X bn 46 #[.slice A n c] ∧ OwnL kS 9 X w0.heap.size (.slice A n c) ks ∧ ks.Nodup ∧ ks.length + rem.length ≤ es.length ∧
    (∀ x, x ∈ ks ↔ (shwP (absL es) x).1 = true ∧ x ∉ rem.map (·.1)) ∧ (∀ r, pv r → w0.heap.size ≤ r ∧ r < X.heap.size ∧ (Value.slice A n c).ownBlock ≠ some r) ∧ KeepsP (fun r => r < w0.heap.size ∧ r ≠ bn) w0 X
theorem stay_nam (w0 : World) (bn : Nat) (es : List Ent) (hbn : bn < w0.heap.size) : Stay (NamI w0 bn es) where
  new pv pv' rem X X' h hg h1 h2 := by
    obtain ⟨a0, a1, A, n, c, ks, b1, b2, b3, b4, b5, b6, b7⟩ := h
    refine ⟨a0, a1, A, n, c, ks, b1.grown hg (by simp), OwnL.kept b2 hg (by cases (Value.slice A n c).ownBlock <;> simp), b3, b4, b5, fun r hr => ?_, b7.trans (KeepsP.of_grown hg (fun r e => by cases e))⟩
    have hs := hg.size
    rcases h2 r hr with h | h
    · have := b6 r h
      exact ⟨this.1, by omega, this.2.2⟩
    · have := b7.size
      refine ⟨by omega, h.2, fun e => ?_⟩
      have := (OwnL.lt b2 r e).2
      omega
  put pv rem X X' r h hr hg := by
    obtain ⟨a0, a1, A, n, c, ks, b1, b2, b3, b4, b5, b6, b7⟩ := h
    have hr6 := b6 r hr
    exact ⟨a0, a1, A, n, c, ks, b1.grown hg (by intro e; injection e with e; omega), OwnL.kept b2 hg (.inr hr6.2.2), b3, b4, b5, fun r' hr' => ⟨(b6 r' hr').1, Nat.lt_of_lt_of_le (b6 r' hr').2.1 hg.size, (b6 r' hr').2.2⟩, b7.trans (KeepsP.of_grown hg (fun r' e h3 => by injection e with e; subst e; omega))⟩
theorem rem_mem {rem : List (Nm × Option Nat)} (hd : (rem.map (·.1)).Nodup) {x : Nm × Option Nat} (hx : x ∈ rem) (y : Nm) : y ∈ (rem.filter fun p => !decide (p.1 = x.1)).map (·.1) ↔ y ∈ rem.map (·.1) ∧ y ≠ x.1 := by
  simp only [List.mem_map, List.mem_filter, Bool.not_eq_true', decide_eq_false_iff_not]
  constructor
  · rintro ⟨p, ⟨h1, h2⟩, rfl⟩
    exact ⟨⟨p, h1, rfl⟩, h2⟩
  · rintro ⟨⟨p, h1, rfl⟩, h2⟩
    exact ⟨p, ⟨h1, h2⟩, rfl⟩
theorem rem_len {rem : List (Nm × Option Nat)} {x : Nm × Option Nat} (hx : x ∈ rem) : (rem.filter fun p => !decide (p.1 = x.1)).length + 1 ≤ rem.length := by
  induction rem with
  | nil => cases hx
  | cons p rem ih =>
    rw [List.filter_cons, List.length_cons]
    by_cases h : p.1 = x.1
    · have := List.length_filter_le (fun p : Nm × Option Nat => !decide (p.1 = x.1)) rem
      simp [h]
      simpa using this
    · rcases List.mem_cons.1 hx with rfl | hx
      · exact absurd rfl h
      · have := ih hx
        simp [h]
        simpa using this
section
variable {ow : Nat → Nat} {w : World} {s N : Nat} {W : Int} {es : List Ent}
set_option maxRecDepth 100000 in
set_option maxHeartbeats 16000000 in
theorem names_any (H : SI ow w s W N es) (hN : N ≤ 400000) : Calls Try.prog 28 #[.pointer (some ⟨s, 0, none⟩)] w fun r w' => ∃ (bx : Nat) (ss : List Nm) (Nd : Nat → Prop), r = .returned (.func (.func 63) #[] #[.pointer (some ⟨bx, 0, none⟩)]) ∧
    (∀ K, SeqT Fence.wide K Try.prog 63 #[.pointer (some ⟨bx, 0, none⟩)] Nd (fun x : Nm => #[encStr x]) (nxK ss) (finK ss) 0 w') ∧ (∀ r, Nd r → w.heap.size ≤ r ∧ r < w'.heap.size) ∧ Below w.heap.size w w' ∧
    ss.length ≤ es.length ∧ ss.Pairwise (· ≤ ·) ∧ ss.Nodup ∧ (∀ x, x ∈ ss ↔ (shwP (absL es) x).1 = true) ∧ ∀ x ∈ ss, x.length ≤ maxLen := by
  refine (callsIn_wide (n := 6)).1 ?_
  refine callsIn_of_wp_marks Try.func28 rfl trivial ?_ rfl
  simp only [Try.ntmps28, List.size_toArray, List.length_cons, List.length_nil, Nat.reduceAdd, Nat.reduceSub, Array.replicate_succ, Array.replicate_zero, List.push_toArray, List.append_toArray, List.nil_append, List.cons_append]
  refine wpIn_wide.2 ?_
  go_wp2_with (refine wpList_alloc_cell (w := w) rfl 46 rfl (.slice none 0 0) (by kernel_rfl) rfl ?_; intro u1 q1 g1 z1)
  have b1 : Below w.heap.size w u1 := (Below.refl _ w).grown g1 (Nat.le_refl _) (by simp)
  have l1 : w.heap.size < u1.heap.size := (Array.getElem?_eq_some_iff.1 q1).1
  clear g1 z1
  refine (all_any (H.sto.below b1)).mono ?_
  rintro r4 w4 ⟨bx, Nd, rfl, hit, hNd, b4⟩
  have b04 : Below w.heap.size w w4 := b1.trans (b4.mono b1.size)
  have H4 : SI ow w4 s W N es := H.below b04
  have q4 : Blk w4 w.heap.size 46 #[.slice none 0 0] := (b4.block _ l1).trans q1
  have hbn : w.heap.size < w4.heap.size := Nat.lt_of_lt_of_le l1 b4.size
  have hz : ∀ r, w.heap.size ≤ r → ow r = 0 := fun r hr => H.sto.free hr
  have HX0 := Lib.hid (And.intro hz (And.intro hNd H4))
  have hdup : ((es.map fun e => (e.k, some e.h)).map (·.1)).Nodup := by rw [ent_keys]; exact H.sto.keys
  have hshow : ∀ x, (shwP (absL es) x).1 = true → x ∈ (es.map fun e => (e.k, some e.h)).map (·.1) := fun x hx => by rw [ent_keys, ← abs_keys]; exact shw_key hx
  have HKL := Lib.hid (fun e he => (H.sto.few e he).2.2)
  have HEN := Lib.hid (show es.length ≤ 400000 from Nat.le_trans H.sto.len hN)
  have HSK := Lib.hid hshow
  have HXN := Lib.hid hN
  have hsz1 := b1.size
  clear b4 q1 hz hN
  go_wp2_with fail
  refine (wpIn_wide (n := 6)).1 ?_
  refine wpIn_rangeFunc_t rfl (by omega) (gf := 64) (lb := #[.pointer (some ⟨bx, 0, none⟩)]) rfl trivial (enters_of Try.func64 (by kernel_rfl) rfl) (hit _) (Below.refl _ _) (fun _ => rfl) (fun r h => (HX0.out.2.1 r h).2)
    (NamI w4 w.heap.size es) (fun _ _ _ _ => False) (stay_nam _ _ _ hbn) (fun _ => stay_no) ⟨fun y h => h, hdup, none, 0, 0, [], q4, OwnL.nil _ _ _ _, List.nodup_nil, by simp, fun x => ⟨(fun h => by cases h), fun h => absurd (hshow x h.1) h.2⟩, fun r h => h.elim, KeepsP.refl _ _⟩
    (fun pv rem x rem' a' X => NamI w4 w.heap.size es pv rem X ∧ a' = { tmps := #[.pointer (some ⟨s, 0, none⟩), undef, Value.nilFunc, .pointer (some ⟨w.heap.size, 0, none⟩), encStr x.1, ptrV x.2, .pointer (some ⟨s, 0, none⟩), .func (.func 64) #[] #[.pointer (some ⟨bx, 0, none⟩)], encStr x.1, ptrV x.2, undef, undef, undef, undef, undef, undef, undef, undef, undef, undef, undef], defers := [] }) ?hIb ?assign ?body ?done ?stop
  case hIb =>
    rintro pv k x k' a' X X' r ⟨h, h2⟩ hr hg
    exact ⟨(stay_nam _ _ _ hbn).put _ _ _ _ _ h hr hg, h2⟩
  case assign =>
    rintro l pv k x k' X C hl hI hx hC
    simp only [encE, List.zip_toArray, List.zip_cons_cons, List.zip_nil_right, List.foldl_toArray, List.foldl_cons, List.foldl_nil, List.setIfInBounds_toArray, List.set_cons_zero, List.set_cons_succ]
    gi_wp2_with fail
    exact hC _ _ (KeepsP.refl _ _) ⟨hI, rfl⟩
  case body =>
    rintro l pv rem x rem' a' X hl hlr ⟨⟨hsub, hrd, A, n, c, ks, qn, hown, hkd, hkn, hkm, hpv, kX⟩, rfl⟩ ⟨hx, rfl⟩
    obtain ⟨e, he, hxe⟩ := List.mem_map.1 (hsub x hx)
    subst hxe
    obtain ⟨hz, hNd, H4⟩ := HX0.out
    have HXX : SI ow X s W N es := H4.keep (kX.less fun r hr => ⟨H4.sto.low r hr, fun e => by rw [e, hz _ (Nat.le_refl _)] at hr; exact hr rfl⟩)
    have hf := HXX.sto.few e he
    have hne := HXX.some e he
    obtain ⟨m, hm⟩ : ∃ m, e.us.length = m + 1 := ⟨e.us.length - 1, by have := List.length_pos_iff.2 hne; omega⟩
    obtain ⟨v, hv⟩ : ∃ v, e.us[m]? = some v := ⟨_, List.getElem?_eq_getElem (by omega)⟩
    have hshw : (shwP (absL es) e.k).1 = v.is := by
      unfold shwP
      rw [HXX.sto.ent he]
      show (lastP (e.us.map Vw.p)).is = v.is
      unfold lastP
      rw [List.length_map, hm, List.getD_eq_getElem?_getD, List.getElem?_map, show m + 1 - 1 = m by omega, hv]
      rfl
    have hnow := now_some (HXX.sto.hist e he) hm hv (by have := HXN.out; omega)
    have hln : ks.length = n := by obtain ⟨A', c', e, _⟩ := OwnL.form hown; injection e with _ e2 _; exact e2.symm
    have HRM := Lib.hid (rem_mem hrd hx)
    have HRL := Lib.hid (rem_len hx)
    have HKE := Lib.hid (HKL.out e he)
    have HHX := Lib.hid hx
    have HIN := Lib.hid (And.intro hsub (And.intro hrd (And.intro hkd (And.intro hkn (And.intro hkm (And.intro hpv kX))))))
    have HSW := Lib.hid hshw
    have HLN := Lib.hid hln
    have hsX := kX.size
    have hqb := qn.lt
    clear hsub hrd hkd hkn hkm hpv kX hx HXX hf hne hm hv hshw hln he
    gi_wp2_with fail
    refine ⟨trivial, ?_⟩
    refine (CallsIn.inRound l (callsIn_wide.2 hnow)).mono ?_
    rintro e9 X1 ⟨rfl, b5⟩
    have q5 : Blk X1 w.heap.size 46 #[.slice A n c] := qn.below b5 hqb
    have o5 : OwnL kS 9 X1 w4.heap.size (.slice A n c) ks := OwnL.below hown b5
    have hc5 := q5.cell (i := 0) rfl
    clear hnow qn hown
    obtain ⟨vi, hvi⟩ : ∃ vi, v.is = vi := ⟨_, rfl⟩
    have HVI := Lib.hid hvi
    rw [hvi]
    clear hvi
    cases vi with
    | false =>
      gi_wp2_with (refine Held.wpListIn_one (r := some l) rfl (by intro c e; cases e) ?_; refine Held.wpList_run (w := X1) rfl (v := .bool false) (Held.y_fieldv (S := fun _ => True) (k := 1) rfl rfl Try.underlying73 rfl (by kernel_rfl) rfl _ trivial) ?_; refine wpList_nil ⟨rfl, ?_⟩; simp only [Act.put, Z1, Z2, Z3])
      obtain ⟨hsub, hrd, hkd, hkn, hkm, hpv, kX⟩ := HIN.out
      refine ⟨(KeepsP.of_below b5), fun y hy => hsub y (List.mem_filter.1 hy).1, List.Nodup.sublist (List.Sublist.map _ List.filter_sublist) hrd, A, n, c, ks, q5, o5, hkd, by have h9 : (rem.filter fun p => !decide (p.1 = e.k)).length + 1 ≤ rem.length := HRL.out; show ks.length + (rem.filter fun p => !decide (p.1 = e.k)).length ≤ es.length; omega, fun y => ?_, fun r hr => ⟨(hpv r hr).1, Nat.lt_of_lt_of_le (hpv r hr).2.1 b5.size, (hpv r hr).2.2⟩, kX.trans (KeepsP.of_below b5)⟩
      rw [hkm y, HRM.out y]
      constructor
      · rintro ⟨h1, h2⟩
        exact ⟨h1, fun h3 => h2 h3.1⟩
      · rintro ⟨h1, h2⟩
        refine ⟨h1, fun h3 => h2 ⟨h3, fun e9 => ?_⟩⟩
        have e9 : y = e.k := e9
        rw [e9, HSW.out, HVI.out] at h1
        cases h1
    | true =>
      gi_wp2_with (first
        | (refine Held.wpListIn_one (r := some l) rfl (by intro c e; cases e) ?_; refine Held.wpList_run (w := X1) rfl (v := .bool true) (Held.y_fieldv (S := fun _ => True) (k := 1) rfl rfl Try.underlying73 rfl (by kernel_rfl) rfl _ trivial) ?_; refine wpList_nil ⟨rfl, ?_⟩; simp only [Act.put, Z1, Z2, Z3])
        | (refine Held.wpListIn_one (r := some l) rfl (by intro c e; cases e) ?_; refine wpList_build_lst1 (k := kS) (w := X1) rfl 46 9 1 _ rfl Try.underlying46 _ 16 info_kS rfl [e.k] rfl (by simp [Act.eval, Sl.flat, kS]) (fun v hv => by simp [Sl.flat, kS] at hv; rw [hv]; rfl) (by omega) (by omega) ?_; intro X2 ql g2 z2; have q6 := Blk.grown q5 g2 (by simp); have o6 : OwnL kS 9 X2 w4.heap.size (.slice A n c) ks := OwnL.kept o5 g2 (by cases (Value.slice A n c).ownBlock <;> simp); refine wpList_nil ⟨rfl, ?_⟩; simp only [Act.put, Z1, Z2, Z3])
        | (refine Held.wpListIn_one (r := some l) rfl (by intro c e; cases e) ?_; refine wpList_append_lst0 (k := kS) (w := X2) rfl _ _ 46 9 rfl Try.underlying46 _ 16 info_kS rfl w4.heap.size X2.heap.size 1 1 (some ⟨X1.heap.size, 0, none⟩) (.slice A n c) ks [e.k] rfl rfl o6 (lst_whole ql rfl (fun y hy => by rw [List.mem_singleton.1 hy]; exact HKE.out)) (by have := HLN.out; have := HEN.out; have := HIN.out.2.2.2.1; omega) (by omega) (by have := b5.size; have := g2.size; omega) ?_; intro v7 X3 o7 g3 n3; obtain ⟨A7, n7, c7, rfl, hn7, -⟩ := OwnL.form2 o7; have q7 : Blk X3 w.heap.size 46 #[.slice A n c] := q6.grown g3 (fun e => OwnL.ne_blk o6 q6 (by decide) e.symm); refine wpList_nil ⟨rfl, ?_⟩; simp only [Act.put, Z1, Z2, Z3])
        | (refine Held.wpListIn_one (r := some l) rfl (by intro c e; cases e) ?_; refine wpList_store_field (w := X3) rfl 46 _ _ rfl w.heap.size 0 rfl 46 _ (.slice A7 n7 c7) rfl q7 (by simp) (by kernel_rfl) rfl rfl ?_; intro X4 q8 g4 z4; refine wpList_nil ⟨rfl, ?_⟩; simp only [Act.put]))
      obtain ⟨hsub, hrd, hkd, hkn, hkm, hpv, kX⟩ := HIN.out
      have q8 : Blk X4 w.heap.size 46 #[.slice A7 n7 c7] := q8
      have o8 : OwnL kS 9 X4 w4.heap.size (.slice A7 n7 c7) (ks ++ [e.k]) := OwnL.kept o7 g4 (.inr fun e => OwnL.ne_blk o7 q7 (by decide) e)
      have hob : ∀ r, (Value.slice A n c).ownBlock = some r → w4.heap.size ≤ r := fun r e => (OwnL.lt o6 r e).1
      have K1 : KeepsP (fun r => r < w4.heap.size ∧ r ≠ w.heap.size) X X4 := (KeepsP.of_below b5).trans ((KeepsP.of_grown g2 (fun r e => by cases e)).trans ((KeepsP.of_grown g3 (fun r e hr => by have := hob r e; omega)).trans (KeepsP.of_grown g4 (fun r e hr => by injection e with e; exact hr.2 e.symm))))
      have K2 : KeepsP (fun r => Nd r ∨ pv r) X X4 := by
        refine (KeepsP.of_below b5).trans ((KeepsP.of_grown g2 (fun r e => by cases e)).trans ((KeepsP.of_grown g3 ?_).trans (KeepsP.of_grown g4 ?_)))
        · intro r e hr
          have h9 := hob r e
          rcases hr with hr | hr
          · have := (hNd r hr).2; omega
          · exact (hpv r hr).2.2 e
        · intro r e hr
          injection e with e
          subst e
          rcases hr with hr | hr
          · rcases (hNd _ hr).1 with h9 | h9
            · omega
            · rw [hz _ (Nat.le_refl _)] at h9; omega
          · have := (hpv _ hr).1; omega
      · have hnk : e.k ∉ ks := fun h9 => ((hkm e.k).1 h9).2 (List.mem_map.2 ⟨_, HHX.out, rfl⟩)
        refine ⟨K2, fun y hy => hsub y (List.mem_filter.1 hy).1, List.Nodup.sublist (List.Sublist.map _ List.filter_sublist) hrd, A7, n7, c7, ks ++ [e.k], q8, o8, List.nodup_append.2 ⟨hkd, by simp, fun a ha b hb e9 => hnk (by simp at hb; rw [← hb, ← e9]; exact ha)⟩, by have h9 : (rem.filter fun p => !decide (p.1 = e.k)).length + 1 ≤ rem.length := HRL.out; show (ks ++ [e.k]).length + (rem.filter fun p => !decide (p.1 = e.k)).length ≤ es.length; rw [List.length_append, List.length_singleton]; omega, fun y => ?_, fun r hr => ⟨(hpv r hr).1, Nat.lt_of_lt_of_le (hpv r hr).2.1 K1.size, fun e9 => ?_⟩, kX.trans K1⟩
        · rw [HRM.out y, List.mem_append, hkm y]
          constructor
          · rintro (⟨h1, h2⟩ | h1)
            · exact ⟨h1, fun h3 => h2 h3.1⟩
            · rw [List.mem_singleton.1 h1]
              exact ⟨by rw [HSW.out]; exact HVI.out, fun h3 => h3.2 rfl⟩
          · rintro ⟨h1, h2⟩
            by_cases e9 : y = e.k
            · exact .inr (by rw [e9]; exact List.mem_singleton.2 rfl)
            · exact .inl ⟨h1, fun h3 => h2 ⟨h3, e9⟩⟩
        · rcases n3 with h9 | h9
          · rw [h9] at e9
            exact (hpv r hr).2.2 e9
          · rw [h9] at e9
            injection e9 with e9
            have := (hpv r hr).2.1
            have := b5.size
            have := g2.size
            omega
  case done =>
    rintro D pv rem X hk ⟨hsub, hrd, A, n, c, ks, qn, hown, hkd, hkn, hkm, hpv, kX⟩ hD hDl
    obtain rfl : rem = [] := hk
    have hc := qn.cell (i := 0) rfl
    obtain ⟨hDw, hDX, hDo⟩ := hpv D hD
    have hln : ks.length = n := by obtain ⟨A', c', e, _⟩ := OwnL.form hown; injection e with _ e2 _; exact e2.symm
    have hb4X : Below w.heap.size w X := ((KeepsP.of_below (S := fun r => r < w.heap.size) b04).trans (kX.less fun r hr => ⟨by omega, by omega⟩)).below (Nat.le_refl _) (fun r h => h)
    have HKS := Lib.hid (And.intro hkd (And.intro hkn (And.intro hkm hln)))
    have hso := sort_own hown (by have := HEN.out; simp at hkn; omega)
    have hqX := qn.lt
    have hsX := kX.size
    clear hsub hrd hkd hkn hkm hpv kX hln
    go_wp2_with fail
    refine hso.mono ?_
    rintro e u3 ⟨rfl, o3, g3⟩
    have q3 : Blk u3 w.heap.size 46 #[.slice A n c] := qn.grown g3 (fun e => OwnL.ne_blk hown qn (by decide) e.symm)
    have hc3 := q3.cell (i := 0) rfl
    have hD3 := (g3.block D hDX (fun e => hDo e.symm)).trans hDl
    clear hc hso
    go_wp2_with fail
    refine (values_any A n c u3).mono ?_
    rintro e u4 ⟨bx2, rfl, qx, hbx, b5⟩
    have hD4 := (b5.block D (Array.getElem?_eq_some_iff.1 hD3).1).trans hD3
    have o4 := OwnL.below o3 b5
    have hs3 := g3.size
    have hs4 := b5.size
    have hlx := qx.lt
    clear hc3
    go_wp2_with fail
    refine ⟨by simp, .inl ⟨_, _, rfl, run_takeDeferred hD4, ?_⟩⟩
    obtain ⟨hkd, hkn, hkm, hln⟩ := HKS.out
    have hg := grownBy_putObj' u4 D (.deferred none)
    have hlo := OwnL.lt o4
    have hs04 := b04.size
    refine ⟨_, results_tmp rfl _ _ _, bx2, srtS ks, fun r => r = bx2 ∨ (Value.slice A n c).ownBlock = some r, rfl, fun K => vals_t K bx2 n c w4.heap.size A (srtS ks) _ ((World.putObj_heap_other (by omega)).trans qx) (OwnL.kept o4 hg (.inr fun e => hDo e)) (by have := HEN.out; simp at hkn; omega), fun r hr => ?_, ?_, ?_, sortS_le ks, sortS_nodup hkd, fun x => ?_, fun x hx => ?_⟩
    · rw [World.putObj_size]
      rcases hr with rfl | hr
      · omega
      · have := hlo r hr; omega
    · exact ((hb4X.grown g3 hb4X.size (fun r e => by have := (OwnL.lt hown r e).1; omega)).trans (b5.mono (by have := hb4X.size; omega))).grown hg (by omega) (fun r e => by injection e with e; omega)
    · unfold srtS; simp at hkn ⊢; exact hkn
    · rw [sortS_mem, hkm x]
      simp
    · rw [sortS_mem] at hx
      have h9 := HSK.out x ((hkm x).1 hx).1
      obtain ⟨y, hy, rfl⟩ := List.mem_map.1 h9
      obtain ⟨e, he, rfl⟩ := List.mem_map.1 hy
      exact HKL.out e he
  case stop =>
    intro D c pv k X h
    exact h.elim
end
end Go.Proofs.Ytbippmbcgkicaaa.Sto
namespace Go.Proofs.Ytbippmbcgkicaaa.Sto
open Go.RowKit Go.Shelf Go.Proofs.Ytbippmbcgkicaaa Mem Held Sl Go.Proofs.Ytbippmbcgkicaaa.Range
attribute [local go_sem] Oper.semAt_some
attribute [local irreducible] wpList wpListIn Calls
def SeqI (w0 : World) (bn : Nat) (ss : List Nm) (pv : Nat → Prop) (k : Nat) (X : World) : Prop :=
  k ≤ ss.length ∧ ∃ (A : Option Addr) (n c : Nat), Blk X bn 46 #[.slice A n c] ∧ OwnL kS 9 X w0.heap.size (.slice A n c) (ss.take k) ∧
    (∀ r, pv r → w0.heap.size ≤ r ∧ r < X.heap.size ∧ (Value.slice A n c).ownBlock ≠ some r) ∧ KeepsP (fun r => r < w0.heap.size ∧ r ≠ bn) w0 X
theorem stay_seq (w0 : World) (bn : Nat) (ss : List Nm) (hbn : bn < w0.heap.size) : Stay (SeqI w0 bn ss) where
  new pv pv' k X X' h hg h1 h2 := by
    obtain ⟨a0, A, n, c, b1, b2, b6, b7⟩ := h
    refine ⟨a0, A, n, c, b1.grown hg (by simp), OwnL.kept b2 hg (by cases (Value.slice A n c).ownBlock <;> simp), fun r hr => ?_, b7.trans (KeepsP.of_grown hg (fun r e => by cases e))⟩
    have hs := hg.size
    rcases h2 r hr with h | h
    · have := b6 r h
      exact ⟨this.1, by omega, this.2.2⟩
    · have := b7.size
      refine ⟨by omega, h.2, fun e => ?_⟩
      have := (OwnL.lt b2 r e).2
      omega
  put pv k X X' r h hr hg := by
    obtain ⟨a0, A, n, c, b1, b2, b6, b7⟩ := h
    have hr6 := b6 r hr
    exact ⟨a0, A, n, c, b1.grown hg (by intro e; injection e with e; omega), OwnL.kept b2 hg (.inr hr6.2.2), fun r' hr' => ⟨(b6 r' hr').1, Nat.lt_of_lt_of_le (b6 r' hr').2.1 hg.size, (b6 r' hr').2.2⟩, b7.trans (KeepsP.of_grown hg (fun r' e h3 => by injection e with e; subst e; omega))⟩
set_option maxRecDepth 100000 in
set_option maxHeartbeats 16000000 in
theorem seqS_any (most : Int) (g : Nat) (lb : Array Value) (Nd : Nat → Prop) (ss : List Nm) (w : World) (eg : ∀ args w, (callFunc g args).run Try.prog w = .ok (.enter g args) w) (hs : ∀ K, SeqT Fence.wide K Try.prog g lb Nd (fun x : Nm => #[encStr x]) (nxK ss) (finK ss) 0 w) (hN : ∀ r, Nd r → r < w.heap.size)
    (hlen : (ss.length : Int) ≤ most) (hl20 : ss.length ≤ 1000000) (hkl : ∀ x ∈ ss, x.length ≤ maxLen) :
    Calls Try.prog 27 #[.func (.func g) #[] lb, .int .i64 most] w fun r w' => ∃ v, r = .returned (.tuple #[v, .bool true]) ∧ OwnL kS 9 w' w.heap.size v ss ∧ Below w.heap.size w w' := by
  have hfn := fun W => Held.run_func_nil (P := Try.prog) 50 Try.underlying50 (.func g) #[] lb W
  have HLEN := Lib.hid hlen
  have HL20 := Lib.hid hl20
  have HKL := Lib.hid hkl
  clear hlen hl20 hkl
  refine (callsIn_wide (n := 4)).1 ?_
  refine callsIn_of_wp_marks Try.func27 rfl trivial ?_ rfl
  simp only [Try.ntmps27, List.size_toArray, List.length_cons, List.length_nil, Nat.reduceAdd, Nat.reduceSub, Array.replicate_succ, Array.replicate_zero, List.push_toArray, List.append_toArray, List.nil_append, List.cons_append]
  refine wpIn_wide.2 ?_
  go_wp2_with (first
    | (refine wpList_box_cell (w := w) rfl 3 _ rfl (.int .i64 most) rfl rfl ?_; intro u1 q1 g1 z1)
    | (refine wpList_alloc_cell (w := u1) rfl 46 rfl (.slice none 0 0) (by kernel_rfl) rfl ?_; intro u2 q2 g2 z2; have q1 := Held.keep_cells q1 g2 (by simp))
    | (refine wpList_alloc_cell (w := u2) rfl 4 rfl (.bool false) (by kernel_rfl) rfl ?_; intro u3 q3 g3 z3; have q1 := Held.keep_cells q1 g3 (by simp); have q2 := Held.keep_cells q2 g3 (by simp))
    | (refine wpList_alloc_cell (w := u3) rfl 46 rfl (.slice none 0 0) (by kernel_rfl) rfl ?_; intro u4 q4 g4 z4; have q1 := Held.keep_cells q1 g4 (by simp); have q2 := Held.keep_cells q2 g4 (by simp); have q3 := Held.keep_cells q3 g4 (by simp)))
  have b4 : Below w.heap.size w u4 := ((((Below.refl _ w).grown g1 (Nat.le_refl _) (by simp)).grown g2 g1.size (by simp)).grown g3 (Nat.le_trans g1.size g2.size) (by simp)).grown g4 (Nat.le_trans (Nat.le_trans g1.size g2.size) g3.size) (by simp)
  have s1 : w.heap.size < u1.heap.size := by have := z1.out; omega
  have s2 : u1.heap.size < u2.heap.size := by have := z2.out; omega
  have s3 : u2.heap.size < u3.heap.size := by have := z3.out; omega
  have l1 : w.heap.size < u4.heap.size := (Array.getElem?_eq_some_iff.1 q1).1
  have l2 : u1.heap.size < u4.heap.size := (Array.getElem?_eq_some_iff.1 q2).1
  have l3 : u2.heap.size < u4.heap.size := (Array.getElem?_eq_some_iff.1 q3).1
  have l4 : u3.heap.size < u4.heap.size := (Array.getElem?_eq_some_iff.1 q4).1
  clear g1 z1 g2 z2 g3 z3 g4 z4
  refine (wpIn_wide (n := 4)).1 ?_
  refine wpIn_rangeFunc_t rfl (by omega) (gf := g) (lb := lb) rfl trivial eg (hs _) b4 (fun _ => rfl) (fun r h => Nat.lt_of_lt_of_le (hN r h) b4.size)
    (SeqI u4 u3.heap.size ss) (fun _ _ _ _ => False) (stay_seq _ _ _ l4) (fun _ => stay_no) ⟨Nat.zero_le _, none, 0, 0, q4, OwnL.nil _ _ _ _, fun _ h => h.elim, KeepsP.refl _ _⟩
    (fun pv k x k' a' X => SeqI u4 u3.heap.size ss pv k X ∧ a' = { tmps := #[.func (.func g) #[] lb, .int .i64 most, undef, .pointer (some ⟨w.heap.size, 0, none⟩), .pointer (some ⟨u1.heap.size, 0, none⟩), .pointer (some ⟨u2.heap.size, 0, none⟩), .pointer (some ⟨u3.heap.size, 0, none⟩), encStr x, .func (.func g) #[] lb, .bool false, .func (.func g) #[] lb, encStr x, undef, undef, undef, undef, undef, undef, undef, undef, undef], defers := [] }) ?hIb ?assign ?body ?done ?stop
  case hIb =>
    rintro pv k x k' a' X X' r ⟨h, h2⟩ hr hg
    exact ⟨(stay_seq _ _ _ l4).put _ _ _ _ _ h hr hg, h2⟩
  case assign =>
    rintro l pv k x k' X C hl hI hx hC
    simp only [List.zip_toArray, List.zip_cons_cons, List.zip_nil_right, List.foldl_toArray, List.foldl_cons, List.foldl_nil, List.setIfInBounds_toArray, List.set_cons_zero, List.set_cons_succ]
    gi_wp2_with fail
    exact hC _ _ (KeepsP.refl _ _) ⟨hI, rfl⟩
  case body =>
    rintro l pv k x k' a' X hl hlr ⟨⟨hkl, A, n, c, qn, hown, hpv, kX⟩, rfl⟩ ⟨hx, rfl⟩
    have hkss : k < ss.length := (List.getElem?_eq_some_iff.1 hx).1
    have htk : ss.take (k + 1) = ss.take k ++ [x] := by rw [List.take_add_one, hx]; rfl
    have hln : (ss.take k).length = n := by obtain ⟨A', c', e, _⟩ := OwnL.form hown; injection e with _ e2 _; exact e2.symm
    have hc := qn.cell (i := 0) rfl
    have hq1 : Blk X w.heap.size 3 #[.int .i64 most] := kX.block _ _ ⟨l1, by omega⟩ q1
    have HKE := Lib.hid (HKL.out x (List.mem_of_getElem? hx))
    have HTK := Lib.hid htk
    have HLN := Lib.hid hln
    have HIN := Lib.hid (And.intro hkss (And.intro hpv kX))
    have HNL := Lib.hid (show (ss.take k).length = k by rw [List.length_take]; omega)
    have hsX := kX.size
    clear hkl hkss htk hpv kX hx hln
    gi_wp2_with (first
      | (refine Held.wpListIn_one (r := some l) rfl (by intro c e; cases e) ?_; refine wpList_build_lst1 (k := kS) (w := X) rfl 46 9 1 _ rfl Try.underlying46 _ 16 info_kS rfl [x] rfl (by simp [Act.eval, Sl.flat, kS]) (fun v hv => by simp [Sl.flat, kS] at hv; rw [hv]; rfl) (by omega) (by omega) ?_; intro X2 ql g2 z2; have q6 := Blk.grown qn g2 (by simp); have o6 : OwnL kS 9 X2 u4.heap.size (.slice A n c) (ss.take k) := OwnL.kept hown g2 (by cases (Value.slice A n c).ownBlock <;> simp); have h16 := Blk.grown hq1 g2 (by simp); refine wpList_nil ⟨rfl, ?_⟩; simp only [Act.put, Z1, Z2, Z3])
      | (refine Held.wpListIn_one (r := some l) rfl (by intro c e; cases e) ?_; refine wpList_append_lst0 (k := kS) (w := X2) rfl _ _ 46 9 rfl Try.underlying46 _ 16 info_kS rfl u4.heap.size X2.heap.size 1 1 (some ⟨X.heap.size, 0, none⟩) (.slice A n c) (ss.take k) [x] rfl rfl o6 (lst_whole ql rfl (fun y hy => by rw [List.mem_singleton.1 hy]; exact HKE.out)) (by have := HNL.out; have := HL20.out; have := HIN.out.1; omega) (by omega) (by have := g2.size; omega) ?_; intro v7 X3 o7 g3 n3; obtain ⟨A7, n7, c7, rfl, hn7, -⟩ := OwnL.form2 o7; have q7 : Blk X3 u3.heap.size 46 #[.slice A n c] := q6.grown g3 (fun e => OwnL.ne_blk o6 q6 (by decide) e.symm); have h17 := h16.grown g3 (fun e => OwnL.ne_blk o6 h16 (by decide) e.symm); refine wpList_nil ⟨rfl, ?_⟩; simp only [Act.put, Z1, Z2, Z3])
      | (refine Held.wpListIn_one (r := some l) rfl (by intro c e; cases e) ?_; refine wpList_store_field (w := X3) rfl 46 _ _ rfl u3.heap.size 0 rfl 46 _ (.slice A7 n7 c7) rfl q7 (by simp) (by kernel_rfl) rfl rfl ?_; intro X4 q8 g4 z4; have q8 : Blk X4 u3.heap.size 46 #[.slice A7 n7 c7] := q8; have hc8 := q8.cell (i := 0) rfl; have h18 := h17.grown g4 (by intro e; injection e with e; omega); have hm8 := h18.cell (i := 0) rfl; have HGT := Lib.hid (show decide (most < (n7 : Int)) = false by have h1 := hn7.out; have h2 := HLEN.out; have h3 := HIN.out.1; have h4 := HNL.out; rw [List.length_append, List.length_singleton] at h1; simp; omega); refine wpList_nil ⟨rfl, ?_⟩; simp only [Act.put])
      | (refine Held.wpListIn_one (r := some l) rfl (by intro c e; cases e) ?_; refine Held.wpList_run (w := X4) rfl (v := .bool false) (Held.y_gtr (S := fun _ => True) rfl rfl rfl HGT.out _ trivial) ?_; refine wpList_nil ⟨rfl, ?_⟩; simp only [Act.put, Z1, Z2, Z3]))
    obtain ⟨hkss, hpv, kX⟩ := HIN.out
    have o8 : OwnL kS 9 X4 u4.heap.size (.slice A7 n7 c7) (ss.take k ++ [x]) := OwnL.kept o7 g4 (.inr fun e => OwnL.ne_blk o7 q7 (by decide) e)
    have hob : ∀ r, (Value.slice A n c).ownBlock = some r → u4.heap.size ≤ r := fun r e => (OwnL.lt o6 r e).1
    have K1 : KeepsP (fun r => r < u4.heap.size ∧ r ≠ u3.heap.size) X X4 := (KeepsP.of_grown g2 (fun r e => by cases e)).trans ((KeepsP.of_grown g3 (fun r e hr => by have := hob r e; omega)).trans (KeepsP.of_grown g4 (fun r e hr => by injection e with e; exact hr.2 e.symm)))
    have K2 : KeepsP (fun r => Nd r ∨ pv r) X X4 := by
      refine (KeepsP.of_grown g2 (fun r e => by cases e)).trans ((KeepsP.of_grown g3 ?_).trans (KeepsP.of_grown g4 ?_))
      · intro r e hr
        have h9 := hob r e
        rcases hr with hr | hr
        · have := hN r hr; omega
        · exact (hpv r hr).2.2 e
      · intro r e hr
        injection e with e
        subst e
        rcases hr with hr | hr
        · have := hN _ hr; omega
        · have := (hpv _ hr).1; omega
    refine ⟨K2, by omega, A7, n7, c7, q8, by rw [HTK.out]; exact o8, fun r hr => ⟨(hpv r hr).1, Nat.lt_of_lt_of_le (hpv r hr).2.1 K1.size, fun e9 => ?_⟩, kX.trans K1⟩
    rcases n3 with h9 | h9
    · rw [h9] at e9
      exact (hpv r hr).2.2 e9
    · rw [h9] at e9
      injection e9 with e9
      have := (hpv r hr).2.1
      have := g2.size
      omega
  case done =>
    rintro D pv k X hk ⟨hkl, A, n, c, qn, hown, hpv, kX⟩ hD hDl
    have htk : ss.take k = ss := List.take_of_length_le hk
    rw [htk] at hown
    have bX : Below w.heap.size w X := ((KeepsP.of_below (S := fun r => r < w.heap.size) b4).trans (kX.less fun r hr => ⟨by omega, by omega⟩)).below (Nat.le_refl _) (fun r h => h)
    have q2 := kX.block _ _ ⟨l2, by omega⟩ q2
    have q3 := kX.block _ _ ⟨l3, by omega⟩ q3
    have hc := qn.cell (i := 0) rfl
    obtain ⟨hDw, hDX, hDo⟩ := hpv D hD
    have hsX := kX.size
    have o0 : OwnL kS 9 X w.heap.size (.slice A n c) ss := OwnL.less hown (by omega)
    have qb2 : Blk X u1.heap.size 46 #[.slice none 0 0] := q2
    have qb3 : Blk X u2.heap.size 4 #[.bool false] := q3
    have hob : ∀ r, (Value.slice A n c).ownBlock = some r → u4.heap.size ≤ r := fun r e => (OwnL.lt hown r e).1
    clear hpv kX b4 hk
    go_wp2_with (first
      | (refine wpList_store_box (w := X) rfl 46 _ _ rfl u1.heap.size rfl 46 _ (.slice A n c) rfl q2 (by kernel_rfl) rfl rfl ?_; intro v2 e2 f2; have q3 := Held.keep_cells q3 f2 (by simp; omega); have hDl := (f2.block D hDX (by simp; omega)).trans hDl)
      | (refine wpList_store_box (w := v2) rfl 4 _ _ rfl u2.heap.size rfl 4 _ (.bool true) rfl q3 (by kernel_rfl) rfl rfl ?_; intro v3 e3 f3; have e2 := Held.keep_cells e2 f3 (by simp; omega); have hDl := (f3.block D (Nat.lt_of_lt_of_le hDX f2.size) (by simp; omega)).trans hDl))
    have hb : Below w.heap.size w v3 := (bX.grown f2 bX.size (fun r e => by cases e; omega)).grown f3 (Nat.le_trans bX.size f2.size) (fun r e => by cases e; omega)
    have o2 := OwnL.kept o0 f2 (.inr fun e => by have := hob _ e; omega)
    have o3 := OwnL.kept o2 f3 (.inr fun e => by have := hob _ e; omega)
    refine ⟨by simp, .inl ⟨_, _, rfl, run_takeDeferred hDl, ?_⟩⟩
    exact ⟨_, results_two rfl _ _ u1.heap.size u2.heap.size _ _ rfl rfl (by kernel_rfl) (by kernel_rfl) (cell_of_one ((World.putObj_heap_other (by omega)).trans e2)) (cell_of_one ((World.putObj_heap_other (by omega)).trans e3)), _, rfl, OwnL.kept o3 (grownBy_putObj' _ D _) (.inr fun e => hDo e), hb.grown (grownBy_putObj' _ D _) hb.size (fun r e => by cases e; omega)⟩
  case stop =>
    intro D c pv k X h
    exact h.elim
end Go.Proofs.Ytbippmbcgkicaaa.Sto
namespace Go.Proofs.Ytbippmbcgkicaaa.Sto
open Go.RowKit Go.Shelf Go.Proofs.Ytbippmbcgkicaaa Mem Held Sl Go.Proofs.Ytbippmbcgkicaaa.Range
attribute [local irreducible] wpList wpListIn Calls
theorem eqS_any (x : Nm) (w : World) : Calls Try.prog 60 #[encStr x, encStr x] w fun e w' => e = .returned (.bool true) ∧ Below w.heap.size w w' := by
  go_enter Try.func60, Try.ntmps60
  go_wp2_with fail
  go_ret
  exact ⟨ret_bool (by simp), Below.refl _ _⟩
set_option maxRecDepth 100000 in
set_option maxHeartbeats 8000000 in
theorem sameS_any {A A' : Option Addr} {n c n' c' base base' : Nat} {ss : List Nm} {w : World} (h : OwnL kS 9 w base (.slice A n c) ss) (h' : OwnL kS 9 w base' (.slice A' n' c') ss) (hn : ss.length ≤ 1000000) :
    Calls Try.prog 59 #[.slice A n c, .slice A' n' c', .func (.func 60) #[] #[]] w fun e w' => e = .returned (.bool true) ∧ Below w.heap.size w w' := by
  have hln : ss.length = n := by obtain ⟨A9, c9, e, _⟩ := OwnL.form h; injection e with _ e2 _; exact e2.symm
  have hln' : ss.length = n' := by obtain ⟨A9, c9, e, _⟩ := OwnL.form h'; injection e with _ e2 _; exact e2.symm
  obtain rfl : n = n' := by omega
  have hne : ((n : Int) != (n : Int)) = false := by simp
  have HL := Lib.hid hln
  have HLN := Lib.hid hn
  clear hln hln' hn
  go_enter Try.func59, Try.ntmps59
  go_wp2_with fail
  go_loopw [7] (fun i wr => ∃ k : Nat, k ≤ n ∧ i = .int .i64 k ∧ Below w.heap.size w wr) (fun i _ => n - (intOf i).toNat)
  case atStart => exact ⟨0, by omega, rfl, Below.refl _ _⟩
  case round =>
    obtain ⟨k, hk, rfl, hst⟩ := hrel
    by_cases hlt : k < n
    · have hX := OwnL.below h hst
      have hX' := OwnL.below h' hst
      have hkl : k < ss.length := by rw [HL.out]; exact hlt
      obtain ⟨b, e1, -⟩ := own_some hX (by omega)
      obtain ⟨b', e2, -⟩ := own_some hX' (by omega)
      subst e1 e2
      have hx : wr.cell? ⟨b, 0 + k * 1, none⟩ = some (encStr (ss.getD k kS.d)) := own_range hX (i := k) hkl 0 _ rfl
      have hy : wr.cell? ⟨b', 0 + k * 1, none⟩ = some (encStr (ss.getD k kS.d)) := own_range hX' (i := k) hkl 0 _ rfl
      have hb : b < wr.heap.size := (OwnL.lt hX b rfl).2
      have hb' : b' < wr.heap.size := (OwnL.lt hX' b' rfl).2
      generalize ss.getD k kS.d = x at hx hy
      have hltI : (k : Int) < (n : Int) := by omega
      have HK := Lib.hid (show IntKind.i64.wrap ((k : Int) + 1) = ((k + 1 : Nat) : Int) by rw [IntKind.wrap_i64]; have := HLN.out; have := HL.out; omega)
      clear hX hX' hkl
      go_wp2_with fail
      refine wp_region_held (S := fun W => Below wr.heap.size wr W) (by kernel_rfl) ?_
      change wpAnyH _ _ _ _ _ _ _ _ wr.drew
      have c0_0 := (Below.refl wr.heap.size wr).drew
      refine Held.tk (v := .func (.func 60) #[] #[]) 0 (some 19) rfl (Held.y_move rfl rfl) c0_0 ?_
      simp only [Act.put, Z1, Z2, Z3]
      refine Held.tk (v := .slice (some ⟨b, 0, none⟩) n c) 1 (some 20) rfl (Held.y_move rfl rfl) c0_0 ?_
      simp only [Act.put, Z1, Z2, Z3]
      refine Held.tk (v := .int .i64 (k : Int)) 2 (some 21) rfl (Held.y_move rfl rfl) c0_0 ?_
      simp only [Act.put, Z1, Z2, Z3]
      refine Held.tk (v := .pointer (some ⟨b, 0 + k * 1, none⟩)) 3 (some 22) rfl (Held.y_addr rfl rfl rfl (fun W => Rs.run_addr_of (P := Try.prog) 46 9 b 0 n c k 1 .i64 Try.underlying46 (by kernel_rfl) hlt W)) c0_0 ?_
      simp only [Act.put, Z1, Z2, Z3]
      refine Held.tk (v := encStr x) 4 (some 23) rfl (Held.y_load rfl rfl (by kernel_rfl) (fun W hW => (hW.cell (p := ⟨b, 0 + k * 1, none⟩) hb).trans hx)) c0_0 ?_
      simp only [Act.put, Z1, Z2, Z3]
      refine Held.tk (v := .slice (some ⟨b', 0, none⟩) n c') 5 (some 24) rfl (Held.y_move rfl rfl) c0_0 ?_
      simp only [Act.put, Z1, Z2, Z3]
      refine Held.tk (v := .int .i64 (k : Int)) 6 (some 25) rfl (Held.y_move rfl rfl) c0_0 ?_
      simp only [Act.put, Z1, Z2, Z3]
      refine Held.tk (v := .pointer (some ⟨b', 0 + k * 1, none⟩)) 7 (some 26) rfl (Held.y_addr rfl rfl rfl (fun W => Rs.run_addr_of (P := Try.prog) 46 9 b' 0 n c' k 1 .i64 Try.underlying46 (by kernel_rfl) hlt W)) c0_0 ?_
      simp only [Act.put, Z1, Z2, Z3]
      refine Held.tk (v := encStr x) 8 (some 27) rfl (Held.y_load rfl rfl (by kernel_rfl) (fun W hW => (hW.cell (p := ⟨b', 0 + k * 1, none⟩) hb').trans hy)) c0_0 ?_
      simp only [Act.put, Z1, Z2, Z3]
      refine Held.one 9 (by kernel_rfl) ?_
      refine Rs.op_callv 9 (some 28) 60 #[] #[encStr x, encStr x] rfl rfl rfl rfl rfl (enters_of Try.func60 (by kernel_rfl) rfl) (by simp [Act.eval])
        (eqS_any x _) ?_
      rintro e w1 ⟨rfl, b1⟩
      have c0_1 := c0_0.trans (b1.mono c0_0.size)
      refine ⟨_, rfl, c0_1, ?_⟩
      simp only [Act.put, Z1, Z2, Z3]
      refine Held.tk (v := .bool false) 10 (some 29) rfl (Held.y_not rfl rfl rfl) c0_1 ?_
      simp only [Act.put, Z1, Z2, Z3]
      refine wpAnyH_done (by kernel_rfl) ?_ _
      have dz := hst.trans (c0_1.mono hst.size)
      generalize w1 = wz at dz ⊢
      clear hx hy c0_1
      go_wp2_with (refine Held.wpList_run (w := wz) rfl (v := .int .i64 ((k + 1 : Nat) : Int)) (y_addI (S := fun _ => True) (k : Int) 1 rfl rfl rfl HK.out _ trivial) ?_)
      go_roundw
      case rel => exact ⟨k + 1, by omega, rfl, dz⟩
      case measure => simp [intOf]; omega
    · obtain rfl : k = n := by omega
      go_wp2_with fail
      go_ret
      exact ⟨rfl, hst⟩
theorem plainS_any {A A' : Option Addr} {n c n' c' base base' : Nat} {ss : List Nm} {w : World} (h : OwnL kS 9 w base (.slice A n c) ss) (h' : OwnL kS 9 w base' (.slice A' n' c') ss) (hn : ss.length ≤ 1000000) :
    Calls Try.prog 46 #[.slice A n c, .slice A' n' c'] w fun e w' => e = .returned (.bool true) ∧ Below w.heap.size w w' := by
  go_enter Try.func46, Try.ntmps46
  go_wp2_with fail
  refine (sameS_any h h' hn).mono ?_
  rintro e w1 ⟨rfl, b1⟩
  go_wp2_with fail
  go_ret
  exact ⟨rfl, b1⟩
end Go.Proofs.Ytbippmbcgkicaaa.Sto
namespace Go.Proofs.Ytbippmbcgkicaaa.Sto
structure Cp where
  k : List UInt8
  sh : Bool
  zs : List Int
  all : List (List Int)
def entC : List Cp → List UInt8 → Option Cp
  | [], _ => none
  | c :: l, x => if c.k = x then some c else entC l x
def shwC (l : List Cp) (x : List UInt8) : Bool × List Int := match entC l x with
  | none => (false, [])
  | some c => (c.sh, c.zs)
def verC (l : List Cp) (x : List UInt8) : List (List Int) := match entC l x with
  | none => []
  | some c => c.all
def SrtC (l : List Cp) : Prop := (l.map (·.k)).Pairwise (· < ·)
structure AtC (l : List Cp) (x : List UInt8) (m : Nat) : Prop where
  le : m ≤ l.length
  lo : ∀ i c, l[i]? = some c → i < m → c.k < x
  hi : ∀ c, l[m]? = some c → ¬ c.k < x
theorem ent_key {l : List Cp} {x : List UInt8} {c : Cp} : entC l x = some c → c.k = x ∧ c ∈ l := by
  induction l with
  | nil => intro h; cases h
  | cons d l ih =>
    rw [entC]
    split
    · rename_i h
      intro e
      injection e with e
      subst e
      exact ⟨h, List.mem_cons_self⟩
    · intro e
      exact ⟨(ih e).1, List.mem_cons_of_mem _ (ih e).2⟩
theorem entC_none {l : List Cp} {x : List UInt8} : entC l x = none ↔ x ∉ l.map (·.k) := by
  induction l with
  | nil => simp [entC]
  | cons d l ih =>
    rw [entC, List.map_cons, List.mem_cons]
    split
    · rename_i h
      simp [h]
    · rename_i h
      rw [ih]
      exact ⟨fun h1 h2 => h2.elim (fun e => h e.symm) h1, fun h1 h2 => h1 (.inr h2)⟩
theorem srt_nodup {l : List Cp} (h : SrtC l) : (l.map (·.k)).Nodup := List.Pairwise.imp (fun {a b} h e => by rw [e] at h; exact List.lt_irrefl _ h) h
theorem entC_mem {l : List Cp} (hd : (l.map (·.k)).Nodup) {c : Cp} : c ∈ l → entC l c.k = some c := by
  induction l with
  | nil => intro h; cases h
  | cons d l ih =>
    rw [List.map_cons, List.nodup_cons] at hd
    intro h
    rcases List.mem_cons.1 h with rfl | h
    · simp [entC]
    · rw [entC, if_neg (fun e => hd.1 (by rw [e]; exact List.mem_map.2 ⟨c, h, rfl⟩))]
      exact ih hd.2 h
theorem entC_iff {l : List Cp} (hd : (l.map (·.k)).Nodup) {x : List UInt8} {c : Cp} : entC l x = some c ↔ c.k = x ∧ c ∈ l :=
  ⟨ent_key, fun ⟨h1, h2⟩ => h1 ▸ entC_mem hd h2⟩
theorem at_idx {l : List Cp} {i j : Nat} {c d : Cp} (h : SrtC l) (hi : l[i]? = some c) (hj : l[j]? = some d) (hij : i < j) : c.k < d.k := by
  have li := (List.getElem?_eq_some_iff.1 hi)
  have lj := (List.getElem?_eq_some_iff.1 hj)
  have := List.pairwise_iff_getElem.1 h i j (by simpa using li.1) (by simpa using lj.1) hij
  simpa [li.2, lj.2] using this
theorem at_some {l : List Cp} {x : List UInt8} {m : Nat} {c : Cp} (h : SrtC l) (hm : l[m]? = some c) (hk : c.k = x) : entC l x = some c :=
  (entC_iff (srt_nodup h)).2 ⟨hk, List.mem_of_getElem? hm⟩
theorem at_none {l : List Cp} {x : List UInt8} {m : Nat} (h : SrtC l) (ha : AtC l x m) (hn : ∀ c, l[m]? = some c → c.k ≠ x) : entC l x = none := by
  refine entC_none.2 fun hx => ?_
  obtain ⟨d, hd, he⟩ := List.mem_map.1 hx
  obtain ⟨i, hi⟩ := List.getElem?_of_mem hd
  have he : d.k = x := he
  rcases Nat.lt_trichotomy i m with h1 | h1 | h1
  · have := ha.lo i d hi h1
    rw [he] at this
    exact List.lt_irrefl _ this
  · subst h1
    exact hn d hi he
  · have hlt := (List.getElem?_eq_some_iff.1 hi).1
    have hm : l[m]? = some (l[m]'(by omega)) := List.getElem?_eq_getElem _
    have h2 := at_idx h hm hi h1
    rw [he] at h2
    exact ha.hi _ hm h2
theorem set_keys {l : List Cp} {m : Nat} {c c' : Cp} (hm : l[m]? = some c) (hk : c'.k = c.k) : (l.set m c').map (·.k) = l.map (·.k) := by
  rw [List.map_set, hk]
  apply List.ext_getElem?
  intro j
  rw [List.getElem?_set]
  split
  · rename_i h
    subst h
    have := (List.getElem?_eq_some_iff.1 hm).1
    rw [if_pos (by simpa using this), List.getElem?_map, hm]
    rfl
  · rfl
theorem srt_set {l : List Cp} {m : Nat} {c c' : Cp} (h : SrtC l) (hm : l[m]? = some c) (hk : c'.k = c.k) : SrtC (l.set m c') := by
  unfold SrtC
  rw [set_keys hm hk]
  exact h
theorem ent_set {l : List Cp} {m : Nat} {c c' : Cp} (h : SrtC l) (hm : l[m]? = some c) (hk : c'.k = c.k) (x : List UInt8) : entC (l.set m c') x = if x = c.k then some c' else entC l x := by
  have h' := srt_set h hm hk
  have hlt := (List.getElem?_eq_some_iff.1 hm).1
  split
  · rename_i e
    exact (entC_iff (srt_nodup h')).2 ⟨hk.trans e.symm, List.mem_of_getElem? (i := m) (by rw [List.getElem?_set, if_pos rfl, if_pos hlt])⟩
  · rename_i e
    cases he : entC l x with
    | none =>
      rw [entC_none, set_keys hm hk, ← entC_none]
      exact he
    | some d =>
      obtain ⟨h1, h2⟩ := ent_key he
      refine (entC_iff (srt_nodup h')).2 ⟨h1, ?_⟩
      obtain ⟨i, hi⟩ := List.getElem?_of_mem h2
      refine List.mem_of_getElem? (i := i) ?_
      rw [List.getElem?_set, if_neg, hi]
      rintro rfl
      rw [hm] at hi
      injection hi with hi
      subst hi
      exact e h1.symm
def insC (l : List Cp) (m : Nat) (c : Cp) : List Cp := l.take m ++ [c] ++ l.drop m
theorem ins_at {l : List Cp} {m : Nat} (hm : m ≤ l.length) (c : Cp) : (insC l m c)[m]? = some c := by
  unfold insC
  rw [List.getElem?_append_left (by simp; omega), List.getElem?_append_right (by simp; omega)]
  simp [Nat.min_eq_left hm]
theorem mem_ins {l : List Cp} {m : Nat} {c d : Cp} : d ∈ insC l m c ↔ d = c ∨ d ∈ l := by
  unfold insC
  rw [List.mem_append, List.mem_append, List.mem_singleton]
  constructor
  · rintro ((h | h) | h)
    · exact .inr (List.mem_of_mem_take h)
    · exact .inl h
    · exact .inr (List.mem_of_mem_drop h)
  · rintro (h | h)
    · exact .inl (.inr h)
    · rw [← List.take_append_drop m l, List.mem_append] at h
      exact h.elim (fun h => .inl (.inl h)) .inr
theorem srt_ins {l : List Cp} {m : Nat} {c : Cp} (h : SrtC l) (ha : AtC l c.k m) (hn : ∀ d, l[m]? = some d → d.k ≠ c.k) : SrtC (insC l m c) := by
  have hlo : ∀ a ∈ l.take m, a.k < c.k := fun a ha' => by
    obtain ⟨i, hi⟩ := List.getElem?_of_mem ha'
    have hil := (List.getElem?_eq_some_iff.1 hi).1
    rw [List.length_take] at hil
    rw [List.getElem?_take, if_pos (by omega)] at hi
    exact ha.lo i a hi (by omega)
  have hhi : ∀ a ∈ l.drop m, c.k < a.k := fun a ha' => by
    obtain ⟨i, hi⟩ := List.getElem?_of_mem ha'
    rw [List.getElem?_drop] at hi
    have hlt := (List.getElem?_eq_some_iff.1 hi).1
    have hm : l[m]? = some (l[m]'(by omega)) := List.getElem?_eq_getElem _
    have h1 := ha.hi _ hm
    have h2 := hn _ hm
    have h3 : c.k < (l[m]'(by omega)).k := Classical.byContradiction fun h4 => h2 (List.le_antisymm h4 h1)
    rcases Nat.eq_zero_or_pos i with h0 | h0
    · subst h0
      rw [Nat.add_zero, hm] at hi
      injection hi with hi
      rw [← hi]
      exact h3
    · exact List.lt_trans h3 (at_idx h hm hi (by omega))
  unfold SrtC insC
  rw [List.map_append, List.map_append, List.pairwise_append, List.pairwise_append]
  have hsp : (l.take m).map (·.k) ++ (l.drop m).map (·.k) = l.map (·.k) := by rw [← List.map_append, List.take_append_drop]
  have h' : (l.map (·.k)).Pairwise (· < ·) := h
  rw [← hsp, List.pairwise_append] at h'
  refine ⟨⟨h'.1, by simp, fun a ha' b hb => ?_⟩, h'.2.1, fun a ha' b hb => ?_⟩
  · obtain ⟨d, hd, rfl⟩ := List.mem_map.1 ha'
    simp at hb
    rw [hb]
    exact hlo d hd
  · obtain ⟨e, he, rfl⟩ := List.mem_map.1 hb
    rcases List.mem_append.1 ha' with ha' | ha'
    · exact h'.2.2 a ha' _ hb
    · simp at ha'
      rw [ha']
      exact hhi e he
theorem ent_ins {l : List Cp} {m : Nat} {c : Cp} (h : SrtC l) (ha : AtC l c.k m) (hn : ∀ d, l[m]? = some d → d.k ≠ c.k) (x : List UInt8) : entC (insC l m c) x = if x = c.k then some c else entC l x := by
  have h' := srt_ins h ha hn
  split
  · rename_i e
    exact (entC_iff (srt_nodup h')).2 ⟨e.symm, mem_ins.2 (.inl rfl)⟩
  · rename_i e
    cases he : entC l x with
    | none =>
      refine entC_none.2 fun hx => ?_
      obtain ⟨d, hd, hk⟩ := List.mem_map.1 hx
      rcases mem_ins.1 hd with rfl | hd
      · exact e hk.symm
      · exact entC_none.1 he (List.mem_map.2 ⟨d, hd, hk⟩)
    | some d =>
      obtain ⟨h1, h2⟩ := ent_key he
      exact (entC_iff (srt_nodup h')).2 ⟨h1, mem_ins.2 (.inr h2)⟩
structure Doc (L : Lp) (W : Int) (l : List Cp) (O : List (List Cp)) : Prop where
  srt : SrtC l
  key : ∀ x, x ∈ l.map (·.k) ↔ x ∈ keysP L
  shw : ∀ x, shwC l x = shwP L x
  ver : ∀ x, verC l x = verP L x
  len : (O.length : Int) = W
  old : ∀ (j : Nat) o, O[j]? = some o → SrtC o ∧ ∀ x, shwC o x = bhdP L x j
theorem Doc.nil : Doc [] 0 [] [] := ⟨by simp [SrtC], by simp [keysP], fun _ => rfl, fun _ => rfl, rfl, fun j o h => by cases h⟩
theorem shw_of {l : List Cp} {x : List UInt8} {c : Cp} (h : entC l x = some c) : shwC l x = (c.sh, c.zs) := by unfold shwC; rw [h]
theorem ver_of {l : List Cp} {x : List UInt8} {c : Cp} (h : entC l x = some c) : verC l x = c.all := by unfold verC; rw [h]
theorem Doc.show_ {L : Lp} {W : Int} {l : List Cp} {O : List (List Cp)} (h : Doc L W l O) (hg : GoodL L W) {m : Nat} {c : Cp} (hm : l[m]? = some c) (v : Vp) : Doc (modP c.k (shwF W v) L) W (l.set m { c with sh := v.is, zs := v.zs }) O := by
  have hk : c.k ∈ keysP L := (h.key _).1 (List.mem_map.2 ⟨c, List.mem_of_getElem? hm, rfl⟩)
  have hc : ({ c with sh := v.is, zs := v.zs } : Cp).k = c.k := rfl
  refine ⟨srt_set h.srt hm hc, fun x => by rw [set_keys hm hc, mod_keys]; exact h.key x, fun x => ?_, fun x => ?_, h.len, fun j o ho => ⟨(h.old j o ho).1, fun x => ?_⟩⟩
  · rw [shw_mod hk]
    unfold shwC
    rw [ent_set h.srt hm hc]
    by_cases e : x = c.k
    · rw [if_pos e, if_pos e]
    · rw [if_neg e, if_neg e]
      exact h.shw x
  · rw [ver_mod, ← h.ver]
    unfold verC
    rw [ent_set h.srt hm hc]
    by_cases e : x = c.k
    · rw [if_pos e, e, at_some h.srt hm rfl]
    · rw [if_neg e]
  · have hlt := (List.getElem?_eq_some_iff.1 ho).1
    have := h.len
    rw [bhd_mod hg (by omega)]
    exact (h.old j o ho).2 x
theorem Doc.old_put {L : Lp} {W : Int} {l : List Cp} {O : List (List Cp)} (h : Doc L W l O) (hg : GoodL L W) (k : List UInt8) (zs : List Int) : ∀ (j : Nat) o, (O ++ [l])[j]? = some o → SrtC o ∧ ∀ x, shwC o x = bhdP (putP (W + 1) k zs L) x j := by
  intro j o ho
  have hlen := h.len
  rcases Nat.lt_or_ge j O.length with hj | hj
  · rw [List.getElem?_append_left hj] at ho
    refine ⟨(h.old j o ho).1, fun x => ?_⟩
    rw [bhd_put hg (by omega)]
    exact (h.old j o ho).2 x
  · rw [List.getElem?_append_right hj] at ho
    have hj0 : j = O.length := by
      have := (List.getElem?_eq_some_iff.1 ho).1
      simp at this
      omega
    subst hj0
    rw [Nat.sub_self] at ho
    injection ho with ho
    subst ho
    refine ⟨h.srt, fun x => ?_⟩
    rw [bhd_put hg (by omega), hlen, bhd_all hg]
    exact h.shw x
theorem put_keys {t : Int} {k : List UInt8} {zs : List Int} {L : Lp} {x : List UInt8} : x ∈ keysP (putP t k zs L) ↔ x = k ∨ x ∈ keysP L := by
  unfold putP
  rw [mod_keys]
  exact mem_add
theorem Doc.put_is {L : Lp} {W : Int} {l : List Cp} {O : List (List Cp)} (h : Doc L W l O) (hg : GoodL L W) {m : Nat} {c : Cp} (hm : l[m]? = some c) (zs : List Int) : Doc (putP (W + 1) c.k zs L) (W + 1) (l.set m ⟨c.k, true, zs, c.all ++ [zs]⟩) (O ++ [l]) := by
  have hk : c.k ∈ keysP L := (h.key _).1 (List.mem_map.2 ⟨c, List.mem_of_getElem? hm, rfl⟩)
  have hc : (⟨c.k, true, zs, c.all ++ [zs]⟩ : Cp).k = c.k := rfl
  have hlen := h.len
  refine ⟨srt_set h.srt hm hc, fun x => ?_, fun x => ?_, fun x => ?_, by simp; omega, h.old_put hg _ _⟩
  · rw [set_keys hm hc, h.key x, put_keys]
    exact ⟨.inr, fun h => h.elim (fun e => e ▸ hk) id⟩
  · rw [shw_put]
    unfold shwC
    rw [ent_set h.srt hm hc]
    by_cases e : x = c.k
    · rw [if_pos e, if_pos e]
    · rw [if_neg e, if_neg e]
      exact h.shw x
  · rw [ver_put, ← h.ver]
    unfold verC
    rw [ent_set h.srt hm hc]
    by_cases e : x = c.k
    · rw [if_pos e, if_pos e, e, at_some h.srt hm rfl]
    · rw [if_neg e, if_neg e]
theorem Doc.put_no {L : Lp} {W : Int} {l : List Cp} {O : List (List Cp)} (h : Doc L W l O) (hg : GoodL L W) {m : Nat} {k : List UInt8} (ha : AtC l k m) (hn : ∀ d, l[m]? = some d → d.k ≠ k) (zs : List Int) : Doc (putP (W + 1) k zs L) (W + 1) ((insC l m ⟨k, false, [], []⟩).set m ⟨k, true, zs, [zs]⟩) (O ++ [l]) := by
  have hlen := h.len
  have hs := srt_ins (c := ⟨k, false, [], []⟩) h.srt ha hn
  have hm := ins_at ha.le ⟨k, false, [], []⟩
  have hc : (⟨k, true, zs, [zs]⟩ : Cp).k = (⟨k, false, [], []⟩ : Cp).k := rfl
  have he := at_none h.srt ha hn
  refine ⟨srt_set hs hm hc, fun x => ?_, fun x => ?_, fun x => ?_, by simp; omega, h.old_put hg _ _⟩
  · rw [set_keys hm hc, put_keys, ← h.key]
    constructor
    · intro hx
      obtain ⟨d, hd, e⟩ := List.mem_map.1 hx
      rcases mem_ins.1 hd with rfl | hd
      · exact .inl e.symm
      · exact .inr (List.mem_map.2 ⟨d, hd, e⟩)
    · rintro (rfl | hx)
      · exact List.mem_map.2 ⟨_, mem_ins.2 (.inl rfl), rfl⟩
      · obtain ⟨d, hd, e⟩ := List.mem_map.1 hx
        exact List.mem_map.2 ⟨d, mem_ins.2 (.inr hd), e⟩
  · rw [shw_put]
    unfold shwC
    rw [ent_set hs hm hc, ent_ins (c := ⟨k, false, [], []⟩) h.srt ha hn]
    dsimp only
    by_cases e : x = k
    · rw [if_pos e, if_pos e]
    · rw [if_neg e, if_neg e, if_neg e]
      exact h.shw x
  · rw [ver_put, ← h.ver]
    unfold verC
    rw [ent_set hs hm hc, ent_ins (c := ⟨k, false, [], []⟩) h.srt ha hn]
    dsimp only
    by_cases e : x = k
    · rw [if_pos e, if_pos e, e, he]
      rfl
    · rw [if_neg e, if_neg e, if_neg e]
def rolC (o l : List Cp) : List Cp := l.map fun c => { c with sh := (shwC o c.k).1, zs := (shwC o c.k).2 }
theorem ent_rol (o : List Cp) (x : List UInt8) : ∀ l : List Cp, entC (rolC o l) x = (entC l x).map fun c => { c with sh := (shwC o c.k).1, zs := (shwC o c.k).2 }
  | [] => rfl
  | c :: l => by
    have ih := ent_rol o x l
    unfold rolC at ih ⊢
    rw [List.map_cons, entC, ih, entC]
    split <;> rfl
theorem Doc.roll {L : Lp} {W : Int} {l : List Cp} {O : List (List Cp)} (h : Doc L W l O) (hg : GoodL L W) {j : Nat} {o : List Cp} (hj : O[j]? = some o) : Doc (rollP W j L) W (rolC o l) O := by
  have hlt := (List.getElem?_eq_some_iff.1 hj).1
  have hlen := h.len
  have hks : (rolC o l).map (·.k) = l.map (·.k) := by unfold rolC; rw [List.map_map]; rfl
  refine ⟨by unfold SrtC; rw [hks]; exact h.srt, fun x => by rw [hks, roll_keys]; exact h.key x, fun x => ?_, fun x => ?_, h.len, fun i o' ho => ⟨(h.old i o' ho).1, fun x => ?_⟩⟩
  · rw [shw_roll, ← (h.old j o hj).2 x]
    unfold shwC
    rw [ent_rol]
    cases he : entC l x with
    | none =>
      have hx : x ∉ keysP L := fun hx => entC_none.1 he ((h.key x).2 hx)
      have := (h.old j o hj).2 x
      unfold bhdP at this
      rw [ent_none.2 hx] at this
      exact this.symm
    | some c =>
      obtain ⟨h1, _⟩ := ent_key he
      show ((shwC o c.k).1, (shwC o c.k).2) = _
      rw [h1]
      rfl
  · rw [ver_roll, ← h.ver]
    unfold verC
    rw [ent_rol]
    cases entC l x <;> rfl
  · have hlt := (List.getElem?_eq_some_iff.1 ho).1
    rw [bhd_roll hg (by omega)]
    exact (h.old i o' ho).2 x
theorem Doc.same {L L' : Lp} {W : Int} {l : List Cp} {O : List (List Cp)} (h : Doc L W l O) (he : ∀ x, entP L' x = entP L x) : Doc L' W l O := by
  have hk : ∀ x, x ∈ keysP L' ↔ x ∈ keysP L := fun x => by
    have h1 := @ent_none L' x
    have h2 := @ent_none L x
    rw [he] at h1
    exact Decidable.not_iff_not.1 (h1.symm.trans h2)
  refine ⟨h.srt, fun x => (h.key x).trans (hk x).symm, fun x => ?_, fun x => ?_, h.len, fun j o ho => ⟨(h.old j o ho).1, fun x => ?_⟩⟩
  · rw [h.shw x]; unfold shwP; rw [he]
  · rw [h.ver x]; unfold verP; rw [he]
  · rw [(h.old j o ho).2 x]; unfold bhdP; rw [he]
def namC (l : List Cp) : List (List UInt8) := (l.filter (·.sh)).map (·.k)
theorem Doc.names {L : Lp} {W : Int} {l : List Cp} {O : List (List Cp)} (h : Doc L W l O) {ss : List (List UInt8)} (hs : ss.Pairwise (· ≤ ·)) (hd : ss.Nodup) (hm : ∀ x, x ∈ ss ↔ (shwP L x).1 = true) : ss = namC l := by
  have hsub : ((l.filter (·.sh)).map (·.k)).Pairwise (· < ·) := List.Pairwise.sublist (List.Sublist.map _ List.filter_sublist) h.srt
  refine List.Perm.eq_of_pairwise (le := (· ≤ ·)) (fun a b _ _ h1 h2 => List.le_antisymm h1 h2) hs (hsub.imp fun h => List.le_of_lt h) ?_
  refine (List.perm_ext_iff_of_nodup hd (hsub.imp fun h e => by rw [e] at h; exact List.lt_irrefl _ h)).2 fun x => ?_
  rw [hm, ← h.shw]
  constructor
  · intro hx
    unfold shwC at hx
    cases he : entC l x with
    | none => rw [he] at hx; cases hx
    | some c =>
      rw [he] at hx
      obtain ⟨h1, h2⟩ := ent_key he
      exact List.mem_map.2 ⟨c, List.mem_filter.2 ⟨h2, hx⟩, h1⟩
  · intro hx
    obtain ⟨c, hc, rfl⟩ := List.mem_map.1 hx
    obtain ⟨hc, h1⟩ := List.mem_filter.1 hc
    rw [shw_of (entC_mem (srt_nodup h.srt) hc)]
    exact h1
end Go.Proofs.Ytbippmbcgkicaaa.Sto
