/-
  Package store's Fork, by its contract: another store that knows the same of each name; nothing that the one does turns the other.
  What the frame of a proof says of a script of calls that came in.
  A store and the document's, side by side: what each call of the law's script makes of both, and that they answer alike.
  The functions Own and Kept of package dominohelp on bytes, each by its contract.
-/
import Derived.Test.YtbippmbcgkicaaaB14
import Derived.Test.YtbippmbcgkicaaaB3
import Derived.WideShapes
import Derived.ChangeArms
import Derived.ChangeSlices
import Derived.Laws.Slices
set_option linter.unusedVariables false
namespace Go.Proofs.Ytbippmbcgkicaaa.Sto
open Go.RowKit Go.Shelf Go.Proofs.Ytbippmbcgkicaaa Mem Held Sl Go.Proofs.Ytbippmbcgkicaaa.Range
attribute [local go_sem] Oper.semAt_some
attribute [local irreducible] wpList wpListIn Calls
set_option maxRecDepth 100000 in
set_option maxHeartbeats 4000000 in
theorem cloneB_any (B : Nat) (A : Option Addr) (n c : Nat) (rs : List Bs) (w : World) (h : Lst kB w B A n rs) (hB : B ≤ w.heap.size) (hn : n ≤ 1048576) :
    Calls Try.prog 42 #[.slice A n c] w fun e w' => ∃ v, e = .returned v ∧ OwnL kB 31 w' w.heap.size v rs ∧ Below w.heap.size w w' := by
  go_enter Try.func42, Try.ntmps42
  cases A with
  | none =>
    have e0 : n = 0 := by
      rcases Nat.eq_zero_or_pos n with h0 | h0
      · exact h0
      · obtain ⟨_, _, e, _⟩ := h.2.2 h0
        cases e
    subst e0
    have e1 : rs = [] := List.eq_nil_of_length_eq_zero h.1
    subst e1
    go_wp2_with (refine Held.wpList_run (w := w) rfl (v := .bool true) (Mg.y_slnil (S := fun _ => True) (A := none) rfl rfl rfl Try.underlying68 _ trivial) ?_)
    go_ret
    exact ⟨_, rfl, OwnL.nil _ _ _ _, Below.refl _ _⟩
  | some ad =>
    have HL := Lib.hid h.1
    go_wp2_with (first
      | (refine Held.wpList_run (w := w) rfl (v := .bool false) (Mg.y_slnil (S := fun _ => True) (A := some ad) rfl rfl rfl Try.underlying68 _ trivial) ?_)
      | (at_builtin; refine Mg.wpList_append_all (k := kB) (w := w1) rfl _ _ 68 31 rfl Try.underlying68 _ 24 info_kB rfl w.heap.size B n c (some ad) _ [] rs rfl rfl o1 (Lst.below h (b1.mono hB)) (by simp; exact hn) (by omega) b1.size ?_; intro v2 w2 o2 g2 n2)
      | (refine Mg.wpList_build_none (w := w) rfl 68 31 rfl Try.underlying68 (by kernel_rfl) ?_; intro w1 q1 g1; have b1 : Below w.heap.size w w1 := (Below.refl _ w).grown g1 (Nat.le_refl _) (by simp); have o1 : OwnL kB 31 w1 w.heap.size (.slice (some ⟨w.heap.size, 0, none⟩) 0 0) [] := own_of_blk (k := kB) (xs := []) q1 (Nat.le_refl _) (by simp [maxLen])))
    have b2 : Below w.heap.size w w2 := b1.grown g2 b1.size (fun r e => by have e : some w.heap.size = some r := e; cases e; exact Nat.le_refl _)
    go_ret
    exact ⟨_, rfl, o2, b2⟩
set_option maxRecDepth 100000 in
set_option maxHeartbeats 4000000 in
theorem cloneV_any (B : Nat) (A : Option Addr) (n c : Nat) (rs : List Vw) (w : World) (h : Lst kV w B A n rs) (hB : B ≤ w.heap.size) (hn : n ≤ 1048576) :
    Calls Try.prog 43 #[.slice A n c] w fun e w' => ∃ v, e = .returned v ∧ OwnL kV 73 w' w.heap.size v rs ∧ Below w.heap.size w w' := by
  go_enter Try.func43, Try.ntmps43
  cases A with
  | none =>
    have e0 : n = 0 := by
      rcases Nat.eq_zero_or_pos n with h0 | h0
      · exact h0
      · obtain ⟨_, _, e, _⟩ := h.2.2 h0
        cases e
    subst e0
    have e1 : rs = [] := List.eq_nil_of_length_eq_zero h.1
    subst e1
    go_wp2_with (refine Held.wpList_run (w := w) rfl (v := .bool true) (Mg.y_slnil (S := fun _ => True) (A := none) rfl rfl rfl Try.underlying69 _ trivial) ?_)
    go_ret
    exact ⟨_, rfl, OwnL.nil _ _ _ _, Below.refl _ _⟩
  | some ad =>
    have HL := Lib.hid h.1
    go_wp2_with (first
      | (refine Held.wpList_run (w := w) rfl (v := .bool false) (Mg.y_slnil (S := fun _ => True) (A := some ad) rfl rfl rfl Try.underlying69 _ trivial) ?_)
      | (at_builtin; refine Mg.wpList_append_all (k := kV) (w := w1) rfl _ _ 69 73 rfl Try.underlying69 _ 40 info_kV rfl w.heap.size B n c (some ad) _ [] rs rfl rfl o1 (Lst.below h (b1.mono hB)) (by simp; exact hn) (by omega) b1.size ?_; intro v2 w2 o2 g2 n2)
      | (refine Mg.wpList_build_none (w := w) rfl 69 73 rfl Try.underlying69 (by kernel_rfl) ?_; intro w1 q1 g1; have b1 : Below w.heap.size w w1 := (Below.refl _ w).grown g1 (Nat.le_refl _) (by simp); have o1 : OwnL kV 73 w1 w.heap.size (.slice (some ⟨w.heap.size, 0, none⟩) 0 0) [] := own_of_blk (k := kV) (xs := []) q1 (Nat.le_refl _) (by simp [maxLen])))
    have b2 : Below w.heap.size w w2 := b1.grown g2 b1.size (fun r e => by have e : some w.heap.size = some r := e; cases e; exact Nat.le_refl _)
    go_ret
    exact ⟨_, rfl, o2, b2⟩
section
variable {P : Program} {ops : Array Oper} {o : Oper} {a : Act} {w : World} {Q : Exit → Act → World → Prop}
theorem op_box_blk (i : Nat) (d : Option Tmp) {K : Act → World → Prop} (ty : TypeId) {x : Operand} (cs : Array Value) (hi : ops[i]? = some o) (hd : o.dst = d) (hw : Region.wanted o (yielded ops a.tmps) = true) (ho : o.op = .box ty x) (hx : a.eval x = .agg cs)
    (h : ∀ g w', Blk w' g ty cs → Below w.heap.size w w' → Hid (w.heap.size ≤ g) → K (a.put d (.pointer (some ⟨g, 0, none⟩))) w') : wpOp P ops Q i K a w := by
  subst hd
  refine op_wp i hi hw ?_
  unfold Oper.wp execOp
  simp only [ho, hx, Sem.run_bind, Instr.box, newVar, newRow, run_newObj_alloc, Sem.run_pure, Result.andThen_ok, Value.cells]
  exact h _ _ (heap_alloc_new w _) ((Below.refl _ w).alloc (Nat.le_refl _) _) (Lib.hid (Nat.le_refl _))
end
theorem Sto.addL {ow : Nat → Nat} {w w' : World} {s N b g : Nat} {W : Int} {es : List Ent} {k : Nm} {vs : List Bs} {us : List Vw} {vv ww : Value} (H : Sto ow w s W N es) (hk : k.length ≤ maxLen) (hne : ∀ e ∈ es, e.k ≠ k) (hkp : KeepsP (fun r => ow r ≠ s + 2 ∧ r < w.heap.size) w w')
    (hb : Blk w' s 64 #[.map (some b), .int .i64 W]) (hM : MpS eP Try.prog 9 w' b N ((es ++ [(⟨k, g, vs, us⟩ : Ent)]).map fun e => (e.k, some e.h))) (hob : ow b = s + 2) (hg : Blk w' g 71 #[vv, ww]) (hgn : w.heap.size ≤ g)
    (hv : OwnL kB 31 w' w.heap.size vv vs) (hw : OwnL kV 73 w' w.heap.size ww us) (hby : Bytes ow w' vs us) (hfew : vs.length ≤ N ∧ us.length ≤ N) (hlen : es.length + 1 ≤ N) :
    ∃ ow', Sto ow' w' s W N (es ++ [⟨k, g, vs, us⟩]) ∧ Chg ow ow' w w' ∧ ∀ r, ow' r ≠ 0 → ow r ≠ 0 ∨ w.heap.size ≤ r := by
  have hsl := H.lt
  have hfree : ∀ r, w.heap.size ≤ r → ow r = 0 := fun r hr => by
    rcases Nat.eq_zero_or_pos (ow r) with h | h
    · exact h
    · have := H.low r (by omega); omega
  have hbl : b < w.heap.size := H.low b (by omega)
  obtain ⟨ow', how⟩ : ∃ ow' : Nat → Nat, ow' = fun r => if r = g ∨ vv.ownBlock = some r ∨ ww.ownBlock = some r then g + 2 else ow r := ⟨_, rfl⟩
  have hnew : ∀ r, r = g ∨ vv.ownBlock = some r ∨ ww.ownBlock = some r → w.heap.size ≤ r ∧ r < w'.heap.size := fun r h => by
    rcases h with rfl | h | h
    · exact ⟨hgn, hg.lt⟩
    · exact OwnL.lt hv r h
    · exact OwnL.lt hw r h
  have oin : ∀ r, r = g ∨ vv.ownBlock = some r ∨ ww.ownBlock = some r → ow' r = g + 2 := fun r h => by rw [how]; exact if_pos h
  have hold : ∀ r, r < w.heap.size → ow' r = ow r := fun r hr => by
    rw [how]
    exact if_neg (fun h => by have := (hnew r h).1; omega)
  have hk' : ∀ {S : Nat → Prop}, (∀ r, S r → ow r ≠ s + 2) → KeepsP S w w' := fun {S} hS =>
    ⟨hkp.os, hkp.tape, hkp.output, hkp.size, fun r o hr ho => hkp.block r o ⟨hS r hr, (Array.getElem?_eq_some_iff.1 ho).1⟩ ho⟩
  refine ⟨ow', ⟨(hold s hsl).trans H.own, ⟨_, hb, .inr ⟨b, rfl, (hold b hbl).trans hob, hM⟩⟩, fun e he => ?_, fun e he => ?_, ?_, ?_, fun e he => ?_, by simp; omega, fun r hr => ?_, H.wf⟩, ⟨hk' fun r hr => by omega, hold⟩, fun r hr => ?_⟩
  · rcases List.mem_append.1 he with he | he
    · have hnes := H.ne he
      exact (H.hist e he).keep (hk' fun r hr => by omega) (fun r h _ => hold r h)
    · rw [List.mem_singleton.1 he]
      exact ⟨oin g (.inl rfl), vv, ww, hg, OwnL.less hv (Nat.zero_le _), OwnL.less hw (Nat.zero_le _), fun b e => oin b (.inr (.inl e)), fun b e => oin b (.inr (.inr e))⟩
  · rcases List.mem_append.1 he with he | he
    · exact (H.bytes e he).keep (hk' fun r hr => by omega) (fun r h _ => hold r h)
    · rw [List.mem_singleton.1 he]
      exact hby.keep (KeepsP.refl _ _) fun r _ h => hold r (H.low r h)
  · rw [List.map_append]
    exact List.nodup_append.2 ⟨H.keys, by simp, fun a ha c hc e => by
      obtain ⟨x, hx, rfl⟩ := List.mem_map.1 ha
      simp at hc
      exact hne x hx (e.trans hc)⟩
  · rw [List.map_append]
    exact List.nodup_append.2 ⟨H.apart, by simp, fun a ha c hc e => by
      obtain ⟨x, hx, rfl⟩ := List.mem_map.1 ha
      simp at hc
      have := (H.hist x hx).lt
      omega⟩
  · rcases List.mem_append.1 he with he | he
    · exact H.few e he
    · rw [List.mem_singleton.1 he]
      exact ⟨hfew.1, hfew.2, hk⟩
  · rw [how] at hr
    by_cases h : r = g ∨ vv.ownBlock = some r ∨ ww.ownBlock = some r
    · exact (hnew r h).2
    · have hr : (if _ then _ else ow r) ≠ 0 := hr
      rw [if_neg h] at hr
      exact Nat.lt_of_lt_of_le (H.low r hr) hkp.size
  · rw [how] at hr
    by_cases h : r = g ∨ vv.ownBlock = some r ∨ ww.ownBlock = some r
    · exact .inr (hnew r h).1
    · have hr : (if _ then _ else ow r) ≠ 0 := hr
      rw [if_neg h] at hr
      exact .inl hr
theorem ent_snoc (L : Lp) (k x : Nm) (h : Hp) : entP (L ++ [(k, h)]) x = (entP L x).or (if k = x then some h else none) := by
  rw [ent_app]
  simp [entP]
def ForI (ow : Nat → Nat) (w0 : World) (f bm N : Nat) (W : Int) (es : List Ent) (pv : Nat → Prop) (rem : List (Nm × Option Nat)) (X : World) : Prop :=
  (∀ y ∈ rem, y ∈ es.map fun e => (e.k, some e.h)) ∧ (rem.map (·.1)).Nodup ∧ ∃ (owf : Nat → Nat) (E : List Ent), Sto owf X f W N E ∧ owf bm = f + 2 ∧ (Blk X f 64 #[.map (some bm), .int .i64 W] ∧ MpS eP Try.prog 9 X bm E.length (E.map fun e => (e.k, some e.h))) ∧ E.length + rem.length ≤ es.length ∧
    (∀ x, entP (absL E) x = if x ∈ rem.map (·.1) then none else entP (absL es) x) ∧ (∀ r, owf r ≠ 0 → (w0.heap.size ≤ r ∨ r = f ∨ r = bm ∨ ow r = 1) ∧ ¬ pv r) ∧ (∀ r, r < w0.heap.size → ow r = 1 → owf r = 1) ∧ (∀ r, pv r → w0.heap.size ≤ r ∧ r < X.heap.size) ∧ KeepsP (fun r => r < w0.heap.size ∧ r ≠ f ∧ r ≠ bm) w0 X
theorem stay_for (ow : Nat → Nat) (w0 : World) (f bm N : Nat) (W : Int) (es : List Ent) (hf : f < w0.heap.size) (hbm : bm < w0.heap.size) : Stay (ForI ow w0 f bm N W es) where
  new pv pv' rem X X' h hg h1 h2 := by
    obtain ⟨a0, a1, owf, E, b1, b2, ⟨b3, m3⟩, b4, b5, b6, b7, b8, b9⟩ := h
    have hs := hg.size
    refine ⟨a0, a1, owf, E, b1.keep (KeepsP.of_grown hg (fun r e => by cases e)), b2, ⟨b3.grown hg (by simp), m3.kept hg (by simp)⟩, b4, b5, fun r hr => ⟨(b6 r hr).1, fun hp => ?_⟩, b7, fun r hr => ?_, b9.trans (KeepsP.of_grown hg (fun r e => by cases e))⟩
    · rcases h2 r hp with h | h
      · exact (b6 r hr).2 h
      · have := b1.low r hr; omega
    · have h5 := b9.size
      rcases h2 r hr with h | h
      · have := b8 r h; omega
      · omega
  put pv rem X X' r h hr hg := by
    obtain ⟨a0, a1, owf, E, b1, b2, ⟨b3, m3⟩, b4, b5, b6, b7, b8, b9⟩ := h
    have hr8 := b8 r hr
    exact ⟨a0, a1, owf, E, b1.keep (KeepsP.of_grown hg (fun r' e h3 => by injection e with e; subst e; exact (b6 _ h3).2 hr)), b2, ⟨b3.grown hg (by intro e; injection e with e; omega), m3.kept hg (by intro e; injection e with e; omega)⟩, b4, b5, b6, b7, fun r' hr' => ⟨(b8 r' hr').1, Nat.lt_of_lt_of_le (b8 r' hr').2 hg.size⟩, b9.trans (KeepsP.of_grown hg (fun r' e h3 => by injection e with e; subst e; omega))⟩
def ForkPost (ow : Nat → Nat) (w : World) (W : Int) (N : Nat) (es : List Ent) (r : Ending) (w' : World) : Prop :=
  ∃ (f : Nat) (owf : Nat → Nat) (E : List Ent), r = .returned (.pointer (some ⟨f, 0, none⟩)) ∧ SI owf w' f W N E ∧ (∀ x, entP (absL E) x = entP (absL es) x) ∧ (∀ b, owf b ≠ 0 → w.heap.size ≤ b ∨ ow b = 1) ∧ Below w.heap.size w w'
theorem good_same {L L' : Lp} {t : Int} (h : GoodL L t) (hd : (keysP L').Nodup) (he : ∀ x, entP L' x = entP L x) : GoodL L' t := by
  refine ⟨hd, fun p hp => ?_⟩
  have h1 := ent_at hd hp
  rw [he] at h1
  exact h.at_ h1
section
variable {ow : Nat → Nat} {w : World} {s N : Nat} {W : Int} {es : List Ent}
set_option maxRecDepth 100000 in
set_option maxHeartbeats 16000000 in
theorem fork_si (H : SI ow w s W N es) (hN : N ≤ 400000) : Calls Try.prog 19 #[.pointer (some ⟨s, 0, none⟩)] w fun r w' => ForkPost ow w W N es r w' := by
  have hcw := H.sto.writesCell (Below.refl w.heap.size w)
  refine (callsIn_wide (n := 6)).1 ?_
  refine callsIn_of_wp_marks Try.func19 rfl trivial ?_ rfl
  simp only [Try.ntmps19, List.size_toArray, List.length_cons, List.length_nil, Nat.reduceAdd, Nat.reduceSub, Array.replicate_succ, Array.replicate_zero, List.push_toArray, List.append_toArray, List.nil_append, List.cons_append]
  refine wpIn_wide.2 ?_
  have HWC := Lib.hid (fun (w' : World) (h : Below w.heap.size w w') => H.sto.writesCell h)
  clear hcw
  go_wp2_with (first
    | (refine wpList_makeMap_S eP (P := Try.prog) (w := w) rfl 62 9 rfl ?_; intro u1 m1 g1 z1; have hcw1 := HWC.out u1 ((Below.refl _ _).grown g1 (Nat.le_refl _) (by simp)))
    | (refine wpList_box_blk (w := u1) rfl 64 _ rfl #[.map (some w.heap.size), .int .i64 W] rfl ?_; intro u2 q2 g2 z2; have m2 := m1.kept g2 (by simp))
    | (refine wpList_alloc_cell (w := u2) rfl 23 rfl (.pointer none) (by kernel_rfl) rfl ?_; intro u3 q3 g3 z3; have m3 := m2.kept g3 (by simp); have q2 := Blk.grown q2 g3 (by simp))
    | (refine wpList_store_box (w := u3) rfl 23 _ _ rfl u2.heap.size rfl 23 _ (.pointer (some ⟨u1.heap.size, 0, none⟩)) rfl q3 (by kernel_rfl) rfl rfl ?_; intro u4 q4 g4))
  have s1 : w.heap.size < u1.heap.size := by have := z1.out; omega
  have s2 : u1.heap.size < u2.heap.size := by have := z2.out; omega
  have s3 : u2.heap.size < u3.heap.size := by have := z3.out; omega
  have s4 := g4.size
  have b4 : Below w.heap.size w u4 := ((((Below.refl _ w).grown g1 (Nat.le_refl _) (by simp)).grown g2 g1.size (by simp)).grown g3 (Nat.le_trans g1.size g2.size) (by simp)).grown g4 (Nat.le_trans (Nat.le_trans g1.size g2.size) g3.size) (fun r e => by injection e with e; omega)
  have q2 : Blk u4 u1.heap.size 64 #[.map (some w.heap.size), .int .i64 W] := q2.grown g4 (by intro e; injection e with e; omega)
  have m4 := m3.kept g4 (by intro e; injection e with e; omega)
  have q4 : Blk u4 u2.heap.size 23 #[.pointer (some ⟨u1.heap.size, 0, none⟩)] := q4
  obtain ⟨bm, hbm⟩ : ∃ bm, w.heap.size = bm := ⟨_, rfl⟩
  obtain ⟨f, hf⟩ : ∃ f, u1.heap.size = f := ⟨_, rfl⟩
  obtain ⟨bv, hbv⟩ : ∃ bv, u2.heap.size = bv := ⟨_, rfl⟩
  refine (all_any (H.sto.below b4)).mono ?_
  rintro r5 w5 ⟨bx, Nd, rfl, hit, hNd, b5⟩
  have b05 : Below w.heap.size w w5 := b4.trans (b5.mono b4.size)
  have H5 : SI ow w5 s W N es := H.below b05
  have q5 := q2.below b5 q2.lt
  have q5v := q4.below b5 q4.lt
  have m5 := m4.below b5
  have hs5 := b5.size
  rw [hbm] at q5 m5 s1
  rw [hf] at q5 q5v s1 s2
  rw [hbv] at q5v s2 s3
  rw [hbv, hf, hbm]
  have hfw : f < w5.heap.size := by omega
  have hbmw : bm < w5.heap.size := by omega
  have hbvw : bv < w5.heap.size := by omega
  have hz : ∀ r, bm ≤ r → ow r = 0 := fun r hr => H.sto.free (by omega)
  have hNd2 : ∀ r, Nd r → r < w5.heap.size ∧ r ≠ bm ∧ r ≠ f := fun r hr => by
    obtain ⟨h1, h2⟩ := hNd r hr
    refine ⟨h2, fun e => ?_, fun e => ?_⟩
    · rcases h1 with h1 | h1
      · omega
      · rw [e, hz _ (Nat.le_refl _)] at h1; omega
    · rcases h1 with h1 | h1
      · omega
      · rw [e, hz _ (by omega)] at h1; omega
  have hdup : ((es.map fun e => (e.k, some e.h)).map (·.1)).Nodup := by rw [ent_keys]; exact H.sto.keys
  obtain ⟨owf0, how0⟩ : ∃ owf0 : Nat → Nat, owf0 = fun r => if r = f ∨ r = bm then f + 2 else if r < bm ∧ ow r = 1 then 1 else 0 := ⟨_, rfl⟩
  have hof : owf0 f = f + 2 := by rw [how0]; exact if_pos (.inl rfl)
  have hob : owf0 bm = f + 2 := by rw [how0]; exact if_pos (.inr rfl)
  have ho1 : ∀ r, ow r = 1 → owf0 r = 1 := fun r hr => by
    have hr1 : r < bm := by have := H.sto.low r (by omega); omega
    rw [how0]
    show (if _ then _ else if _ then _ else _) = _
    rw [if_neg (by omega), if_pos ⟨hr1, hr⟩]
  have hon : ∀ r, owf0 r ≠ 0 → r = f ∨ r = bm ∨ (r < bm ∧ ow r = 1) := fun r hr => by
    rw [how0] at hr
    by_cases h1 : r = f ∨ r = bm
    · exact h1.elim .inl (fun h => .inr (.inl h))
    · have hr : (if _ then _ else if _ then _ else _) ≠ 0 := hr
      rw [if_neg h1] at hr
      by_cases h2 : r < bm ∧ ow r = 1
      · exact .inr (.inr h2)
      · rw [if_neg h2] at hr; exact absurd rfl hr
  have S0 : Sto owf0 w5 f W N [] := ⟨hof, ⟨_, q5, .inr ⟨bm, rfl, hob, m5.mono (Nat.zero_le _)⟩⟩, by simp, by simp, by simp, by simp, by simp, by simp, fun r hr => by rcases hon r hr with h | h | h <;> omega, H.sto.wf⟩
  have I0 : ForI ow w5 f bm N W es (fun _ => False) (es.map fun e => (e.k, some e.h)) w5 := ⟨fun y h => h, hdup, owf0, [], S0, hob, ⟨q5, m5⟩, by simp, fun x => by
    rw [ent_keys]
    split
    · rfl
    · rename_i h
      show none = _
      rw [ent_none.2 (by rw [abs_keys]; exact h)], fun r hr => ⟨.inr ((hon r hr).imp id fun h => h.imp id fun h => h.2), fun h => h⟩, fun r _ h => ho1 r h, fun r h => h.elim, KeepsP.refl _ _⟩
  have HX0 := Lib.hid (And.intro hz (And.intro hNd2 (And.intro H5 (And.intro q5v (And.intro s1 s2)))))
  have HNN := Lib.hid hN
  have HGD := Lib.hid H.good
  have HSL := Lib.hid (fun r (h : ow r ≠ 0) => H.sto.low r h)
  clear g1 z1 g2 z2 g3 z3 g4 m1 m2 m3 m4 q2 q3 q4 b4 S0 hob hof ho1 hon how0 H hN hz q5 m5
  go_wp2_with fail
  refine (wpIn_wide (n := 6)).1 ?_
  refine wpIn_rangeFunc_t rfl (by omega) (gf := 64) (lb := #[.pointer (some ⟨bx, 0, none⟩)]) rfl trivial (enters_of Try.func64 (by kernel_rfl) rfl) (hit _) (Below.refl _ _) (fun _ => rfl) (fun r h => (hNd2 r h).1)
    (ForI ow w5 f bm N W es) (fun _ _ _ _ => False) (stay_for _ _ _ _ _ _ _ hfw hbmw) (fun _ => stay_no) I0
    (fun pv rem x rem' a' X => ForI ow w5 f bm N W es pv rem X ∧ a' = { tmps := #[.pointer (some ⟨s, 0, none⟩), undef, .pointer none, .pointer (some ⟨bv, 0, none⟩), encStr x.1, ptrV x.2, .pointer (some ⟨s, 0, none⟩), .bool false, .map (some bm), .pointer (some ⟨s, 0, none⟩), .pointer (some ⟨s, 0, none⟩), .pointer (some ⟨s, 1, none⟩), .int .i64 W, .agg #[.map (some bm), .int .i64 W], .pointer (some ⟨f, 0, none⟩), .pointer (some ⟨s, 0, none⟩), .func (.func 64) #[] #[.pointer (some ⟨bx, 0, none⟩)], encStr x.1, ptrV x.2, undef, undef, undef, undef, undef, undef, undef, undef, undef, undef, undef, undef, undef, undef, undef, undef, undef, undef], defers := [] }) ?hIb ?assign ?body ?done ?stop
  case hIb =>
    rintro pv k x k' a' X X' r ⟨h, h2⟩ hr hg
    exact ⟨(stay_for _ _ _ _ _ _ _ hfw hbmw).put _ _ _ _ _ h hr hg, h2⟩
  case assign =>
    rintro l pv k x k' X C hl hI hx hC
    simp only [encE, List.zip_toArray, List.zip_cons_cons, List.zip_nil_right, List.foldl_toArray, List.foldl_cons, List.foldl_nil, List.setIfInBounds_toArray, List.set_cons_zero, List.set_cons_succ]
    gi_wp2_with fail
    exact hC _ _ (KeepsP.refl _ _) ⟨hI, rfl⟩
  case body =>
    rintro l pv rem x rem' a' X hl hlr ⟨⟨hsub, hrd, owX, E, HX, hobX, ⟨qf, hMX⟩, hlen, hent, hlab, hl1, hpv, kX⟩, rfl⟩ ⟨hx, rfl⟩
    obtain ⟨e, he, hxe⟩ := List.mem_map.1 (hsub x hx)
    subst hxe
    obtain ⟨hz, hNd2, H5, q5v, s1, s2⟩ := HX0.out
    have HXX : SI ow X s W N es := H5.keep (kX.less fun r hr => ⟨H5.sto.low r hr, fun e => hr (by rw [e]; exact hz _ (by omega)), fun e => hr (by rw [e]; exact hz _ (Nat.le_refl _))⟩)
    obtain ⟨_, vv, ww, hbe, hvv, hww, _, _⟩ := HXX.sto.hist e he
    obtain ⟨A1, n1, c1, rfl, hn1, -⟩ := OwnL.form2 hvv
    obtain ⟨A2, n2, c2, rfl, hn2, -⟩ := OwnL.form2 hww
    have hfw1 := HXX.sto.few e he
    have HLV := Lib.hid (OwnL.lst hvv (fun _ _ => trivial))
    have HLU := Lib.hid (OwnL.lst hww (fun v hv => ((HXX.sto.bytes e he).us v hv).2))
    have HFW := Lib.hid (show n1 ≤ N ∧ n2 ≤ N from ⟨by have := hn1.out; omega, by have := hn2.out; omega⟩)
    have HKE := Lib.hid hfw1.2.2
    have HEL := Lib.hid (show E.length + 1 ≤ N by have := rem_len hx; have := HXX.sto.len; omega)
    have hel := hbe.lt
    have qbv : Blk X bv 23 #[.pointer (some ⟨f, 0, none⟩)] := kX.block _ _ ⟨hbvw, by omega, by omega⟩ q5v
    have hcv := qbv.cell (i := 0) rfl
    have hcf := qf.cell (i := 0) rfl
    have hfX := qf.lt
    have hbvX : bv < X.heap.size := Nat.lt_of_lt_of_le hbvw kX.size
    have hbmX := hMX.lt
    have HAL := Lib.hid (And.intro HX (And.intro hobX (And.intro hent (And.intro hlab (And.intro hl1 (And.intro hpv (And.intro kX (And.intro hsub (And.intro hrd (And.intro hlen (And.intro hx (And.intro he (And.intro HXX (And.intro qf hfw1))))))))))))))
    have hptr : ptrV (some e.h) = .pointer (some ⟨e.h, 0, none⟩) := rfl
    rw [hptr]
    clear hvv hww hn1 hn2 hfw1 HX hobX hent hlab hl1 hpv kX hsub hrd hlen hx he HXX qf q5v
    gi_wp2_with fail
    refine Held.wpIn_region_barR (r := some l) (s := 17) (T := fun W => Below X.heap.size X W) rfl (by kernel_rfl) (by kernel_rfl) (by intro a w h; exact h) ?_
    change wpAnyB _ _ _ _ _ _ _ _ _ X.drew
    have T0 : Below X.heap.size X X.drew := (Below.refl _ _).drew
    refine Held.takeB (v := .pointer (some ⟨f, 0, none⟩)) 0 (some 19) [17] rfl rfl (by kernel_rfl) (by kernel_rfl) (by kernel_rfl) (by kernel_rfl) (fun _ _ _ h => h) rfl (Held.y_load rfl rfl (by kernel_rfl) (fun W hW => (hW.cell (p := ⟨bv, 0, none⟩) hbvX).trans hcv)) T0 ?_
    simp only [Act.put, Z1, Z2, Z3]
    refine Held.takeB (v := .pointer (some ⟨f, 0, none⟩)) 1 (some 20) [17] rfl rfl (by kernel_rfl) (by kernel_rfl) (by kernel_rfl) (by kernel_rfl) (fun _ _ _ h => h) rfl (Sl.y_nil rfl rfl) T0 ?_
    simp only [Act.put, Z1, Z2, Z3]
    refine Held.takeB (v := .pointer (some ⟨f, 0, none⟩)) 2 (some 21) [17] rfl rfl (by kernel_rfl) (by kernel_rfl) (by kernel_rfl) (by kernel_rfl) (fun _ _ _ h => h) rfl (Held.y_field (k := 0) (s := 0) rfl rfl Try.underlying64 rfl (by kernel_rfl) rfl) T0 ?_
    simp only [Act.put, Z1, Z2, Z3]
    refine Held.takeB (v := .map (some bm)) 3 (some 22) [17] rfl rfl (by kernel_rfl) (by kernel_rfl) (by kernel_rfl) (by kernel_rfl) (fun _ _ _ h => h) rfl (Held.y_load rfl rfl (by kernel_rfl) (fun W hW => (hW.cell (p := ⟨f, 0, none⟩) hfX).trans hcf)) T0 ?_
    simp only [Act.put, Z1, Z2, Z3]
    refine Held.takeB (v := encStr e.k) 4 (some 23) [17] rfl rfl (by kernel_rfl) (by kernel_rfl) (by kernel_rfl) (by kernel_rfl) (fun _ _ _ h => h) rfl (Held.y_move rfl rfl) T0 ?_
    simp only [Act.put, Z1, Z2, Z3]
    refine Held.takeB (v := .pointer (some ⟨e.h, 0, none⟩)) 5 (some 24) [17] rfl rfl (by kernel_rfl) (by kernel_rfl) (by kernel_rfl) (by kernel_rfl) (fun _ _ _ h => h) rfl (Held.y_move rfl rfl) T0 ?_
    simp only [Act.put, Z1, Z2, Z3]
    refine Held.takeB (v := .pointer (some ⟨e.h, 0, none⟩)) 6 (some 25) [17] rfl rfl (by kernel_rfl) (by kernel_rfl) (by kernel_rfl) (by kernel_rfl) (fun _ _ _ h => h) rfl (Sl.y_nil rfl rfl) T0 ?_
    simp only [Act.put, Z1, Z2, Z3]
    refine Held.takeB (v := .pointer (some ⟨e.h, 0, none⟩)) 7 (some 26) [17] rfl rfl (by kernel_rfl) (by kernel_rfl) (by kernel_rfl) (by kernel_rfl) (fun _ _ _ h => h) rfl (Held.y_field (k := 0) (s := 0) rfl rfl Try.underlying71 rfl (by kernel_rfl) rfl) T0 ?_
    simp only [Act.put, Z1, Z2, Z3]
    refine Held.takeB (v := .slice A1 n1 c1) 8 (some 27) [17] rfl rfl (by kernel_rfl) (by kernel_rfl) (by kernel_rfl) (by kernel_rfl) (fun _ _ _ h => h) rfl (Held.y_load rfl rfl (by kernel_rfl) (fun W hW => (hbe.below hW hel).cell rfl)) T0 ?_
    simp only [Act.put, Z1, Z2, Z3]
    refine Held.takeB (v := .pointer (some ⟨e.h, 0, none⟩)) 10 (some 29) [17] rfl rfl (by kernel_rfl) (by kernel_rfl) (by kernel_rfl) (by kernel_rfl) (fun _ _ _ h => h) rfl (Held.y_move rfl rfl) T0 ?_
    simp only [Act.put, Z1, Z2, Z3]
    refine Held.takeB (v := .pointer (some ⟨e.h, 0, none⟩)) 11 (some 30) [17] rfl rfl (by kernel_rfl) (by kernel_rfl) (by kernel_rfl) (by kernel_rfl) (fun _ _ _ h => h) rfl (Sl.y_nil rfl rfl) T0 ?_
    simp only [Act.put, Z1, Z2, Z3]
    refine Held.takeB (v := .pointer (some ⟨e.h, 1, none⟩)) 12 (some 31) [17] rfl rfl (by kernel_rfl) (by kernel_rfl) (by kernel_rfl) (by kernel_rfl) (fun _ _ _ h => h) rfl (Held.y_field (k := 1) (s := 0) rfl rfl Try.underlying71 rfl (by kernel_rfl) rfl) T0 ?_
    simp only [Act.put, Z1, Z2, Z3]
    refine Held.takeB (v := .slice A2 n2 c2) 13 (some 32) [17] rfl rfl (by kernel_rfl) (by kernel_rfl) (by kernel_rfl) (by kernel_rfl) (fun _ _ _ h => h) rfl (Held.y_load rfl rfl (by kernel_rfl) (fun W hW => (hbe.below hW hel).cell rfl)) T0 ?_
    simp only [Act.put, Z1, Z2, Z3]
    refine Held.oneB 9 (by kernel_rfl) ?_
    refine Held.op_call 9 (some 28) 42 #[.slice A1 n1 c1] rfl rfl rfl rfl (enters_of Try.func42 (by kernel_rfl) rfl) (by simp [Act.eval])
      (cloneB_any X.heap.size A1 n1 c1 e.vs _ (Lst.below HLV.out T0) T0.size (by have := HFW.out; have := HNN.out; omega)) ?_
    rintro r9 x1 ⟨v1, rfl, o1, b1⟩
    obtain ⟨A3, n3, c3, rfl, hn3, -⟩ := OwnL.form2 o1
    have o1 := OwnL.less o1 T0.size
    have T0 := T0.trans (b1.mono T0.size)
    refine ⟨_, rfl, fun _ => T0, ?_⟩
    simp only [Act.put, Z1, Z2, Z3]
    refine Held.oneB 14 (by kernel_rfl) ?_
    refine Held.op_call 14 (some 33) 43 #[.slice A2 n2 c2] rfl rfl rfl rfl (enters_of Try.func43 (by kernel_rfl) rfl) (by simp [Act.eval])
      (cloneV_any X.heap.size A2 n2 c2 e.us _ (Lst.below HLU.out T0) T0.size (by have := HFW.out; have := HNN.out; omega)) ?_
    rintro r9 x2 ⟨v2, rfl, o2, b2⟩
    obtain ⟨A4, n4, c4, rfl, hn4, -⟩ := OwnL.form2 o2
    have o2 := OwnL.less o2 T0.size
    have o1 := OwnL.below o1 b2
    have T0 := T0.trans (b2.mono T0.size)
    refine ⟨_, rfl, fun _ => T0, ?_⟩
    simp only [Act.put, Z1, Z2, Z3]
    refine Held.takeB (v := .agg #[.slice A3 n3 c3, .slice A4 n4 c4]) 15 (some 34) [17] rfl rfl (by kernel_rfl) (by kernel_rfl) (by kernel_rfl) (by kernel_rfl) (fun _ _ _ h => h) rfl (Held.y_build rfl (by kernel_rfl)) T0 ?_
    simp only [Act.put, Z1, Z2, Z3]
    refine Held.oneB 16 (by kernel_rfl) ?_
    refine op_box_blk 16 (some 35) 71 #[.slice A3 n3 c3, .slice A4 n4 c4] rfl rfl rfl rfl rfl ?_
    intro gh x3 qh b3 hgh
    have o1 := OwnL.below o1 b3
    have o2 := OwnL.below o2 b3
    have HGH := Lib.hid (Nat.le_trans T0.size hgh.out)
    have T0 := T0.trans (b3.mono T0.size)
    refine ⟨fun _ => T0, ?_⟩
    simp only [Act.put, Z1, Z2, Z3]
    refine Held.oneB 17 (by kernel_rfl) ?_
    refine op_mapUpdate_S (E := eP) 17 none (T := 62) (K := 9) (b := bm) (n := E.length) e.k (some gh) rfl rfl rfl rfl rfl rfl rfl HKE.out trivial Try.underlying9 Try.underlying62 (hMX.below T0) (by have := HNN.out; have := HEL.out; omega) ?_
    intro x4 m4 g4
    refine ⟨fun h => (by cases h.symm.trans (show _ = true by kernel_rfl)), ?_⟩
    simp only [Act.put]
    refine Held.doneB (by kernel_rfl) ?_ _
    obtain ⟨HX, hobX, hent, hlab, hl1, hpv, kX, hsub, hrd, hlen, hx, he, HXX, qf, hfw1⟩ := HAL.out
    have hXs := T0.size
    have hg3 := HGH.out
    have qh4 : Blk x4 gh 71 #[.slice A3 n3 c3, .slice A4 n4 c4] := qh.grown g4 (by intro e; injection e with e; omega)
    have o14 : OwnL kB 31 x4 X.heap.size (.slice A3 n3 c3) e.vs := OwnL.kept o1 g4 (.inr fun e => by have := (OwnL.lt o1 _ e).1; omega)
    have o24 : OwnL kV 73 x4 X.heap.size (.slice A4 n4 c4) e.us := OwnL.kept o2 g4 (.inr fun e => by have := (OwnL.lt o2 _ e).1; omega)
    have hfb : f ≠ bm := by omega
    have qf4 : Blk x4 f 64 #[.map (some bm), .int .i64 W] := (qf.below T0 hfX).grown g4 (by intro e; injection e with e; exact hfb e)
    have KF : KeepsP (fun r => owX r ≠ f + 2 ∧ r < X.heap.size) X x4 := (KeepsP.of_below T0).trans (KeepsP.of_grown g4 (fun r e hr => by injection e with e; rw [← e] at hr; exact hr.1 hobX))
    have hek : entP (absL E) e.k = none := by rw [hent, if_pos (List.mem_map.2 ⟨_, hx, rfl⟩)]
    have hnk : ¬ e.k ∈ (E.map fun e => (e.k, some e.h)).map (·.1) := by rw [ent_keys, ← abs_keys]; exact ent_none.1 hek
    rw [putS_new hnk] at m4
    have m4' : MpS eP Try.prog 9 x4 bm (E.length + 1) ((E ++ [(⟨e.k, gh, e.vs, e.us⟩ : Ent)]).map fun e => (e.k, some e.h)) := by rw [List.map_append]; exact m4
    have hby : Bytes owX x4 e.vs e.us := by
      have hb0 := HXX.sto.bytes e he
      have cv : ∀ {x : Bs}, Rd (fun r => ow r = 1) X x → Rd (fun r => owX r = 1) x4 x := fun {x} hx => (hx.less (S' := fun r => owX r = 1) fun b hb hlt => hl1 b (by have := HSL.out b (by omega); have := b05.size; omega) hb).keep ⟨KF.os, KF.tape, KF.output, KF.size, fun r o hr ho => KF.block r o ⟨by have h1 : owX r = 1 := hr; omega, (Array.getElem?_eq_some_iff.1 ho).1⟩ ho⟩
      exact ⟨fun x hx => cv (hb0.vs x hx), fun v hv => ⟨cv (hb0.us v hv).1, (hb0.us v hv).2⟩⟩
    obtain ⟨owN, HS, HC, hNL⟩ := HX.addL (k := e.k) HKE.out (fun e' he' h9 => ent_none.1 hek (by rw [abs_keys]; exact List.mem_map.2 ⟨e', he', h9⟩)) KF qf4 (m4'.mono (HEL.out)) hobX qh4 hg3 o14 o24 hby ⟨hfw1.1, hfw1.2.1⟩ HEL.out
    have hrl := rem_len hx
    have hrm := rem_mem hrd hx
    have hrl : (rem.filter fun p => !decide (p.1 = e.k)).length + 1 ≤ rem.length := hrl
    refine ⟨(KeepsP.of_below T0).trans (KeepsP.of_grown g4 (fun r e9 hr => ?_)), fun y hy => hsub y (List.mem_filter.1 hy).1, List.Nodup.sublist (List.Sublist.map _ List.filter_sublist) hrd, owN, _, HS, (HC.same bm hbmX).trans hobX, ⟨qf4, m4'.mono (by simp)⟩, ?_, fun y => ?_, fun r hr => ?_, fun r hr h1 => (HC.same r (Nat.lt_of_lt_of_le hr kX.size)).trans (hl1 r hr h1), fun r hr => ⟨(hpv r hr).1, Nat.lt_of_lt_of_le (hpv r hr).2 HC.keep.size⟩, kX.trans ((KeepsP.of_below T0).trans (KeepsP.of_grown g4 (fun r e9 hr => by injection e9 with e9; exact hr.2.2 e9.symm)))⟩
    · injection e9 with e9
      subst e9
      rcases hr with hr | hr
      · exact (hNd2 _ hr).2.1 rfl
      · have := (hpv _ hr).1; omega
    · show (E ++ [_]).length + (rem.filter fun p => !decide (p.1 = e.k)).length ≤ es.length
      rw [List.length_append, List.length_singleton]
      omega
    · have hab : absL (E ++ [(⟨e.k, gh, e.vs, e.us⟩ : Ent)]) = absL E ++ [(e.k, e.p.2)] := by rw [abs_app]; rfl
      rw [hab, ent_snoc, hent y]
      have hrmy := hrm y
      have hrmy : y ∈ (rem.filter fun p => !decide (p.1 = e.k)).map (·.1) ↔ y ∈ rem.map (·.1) ∧ y ≠ e.k := hrmy
      show _ = if y ∈ (rem.filter fun p => !decide (p.1 = e.k)).map (·.1) then none else entP (absL es) y
      by_cases hy : y = e.k
      · rw [if_neg (fun h => (hrmy.1 h).2 hy), if_pos (by rw [hy]; exact List.mem_map.2 ⟨_, hx, rfl⟩), if_pos hy.symm, hy, HXX.sto.ent he]
        rfl
      · have c1 : (if e.k = y then some e.p.2 else none) = none := if_neg (fun h => hy h.symm)
        rw [c1]
        by_cases hyr : y ∈ rem.map (·.1)
        · rw [if_pos hyr, if_pos (hrmy.2 ⟨hyr, hy⟩)]
          rfl
        · rw [if_neg hyr, if_neg (fun h => hyr (hrmy.1 h).1)]
          cases entP (absL es) y <;> rfl
    · rcases hNL r hr with h | h
      · exact hlab r h
      · exact ⟨.inl (Nat.le_trans kX.size h), fun hp => by have := (hpv r hp).2; omega⟩
  case done =>
    rintro D pv rem X hk ⟨hsub, hrd, owX, E, HX, hobX, ⟨qf, hMX⟩, hlen, hent, hlab, hl1, hpv, kX⟩ hD hDl
    obtain rfl : rem = [] := hk
    obtain ⟨hz, hNd2, H5, q5v, s1, s2⟩ := HX0.out
    have qbv : Blk X bv 23 #[.pointer (some ⟨f, 0, none⟩)] := kX.block _ _ ⟨hbvw, by omega, by omega⟩ q5v
    have hcv := qbv.cell (i := 0) rfl
    have hg := grownBy_putObj' X D (.deferred none)
    have hDw := (hpv D hD).1
    have SF := HX.keep (KeepsP.of_grown hg (fun r e h => by injection e with e; subst e; exact (hlab _ h).2 hD))
    have hbX : Below w.heap.size w X := ((KeepsP.of_below (S := fun r => r < w.heap.size) b05).trans (kX.less fun r hr => ⟨by have := b05.size; omega, by omega, by omega⟩)).below (Nat.le_refl _) (fun r h => h)
    have hent2 : ∀ x, entP (absL E) x = entP (absL es) x := fun x => by rw [hent x, if_neg (by simp)]
    have HP : ForkPost ow w W N es (.returned (.pointer (some ⟨f, 0, none⟩))) (X.putObj D (.deferred none)) := ⟨f, owX, E, rfl, ⟨SF, good_same HGD.out (by rw [abs_keys]; exact HX.keys) hent2⟩, hent2, fun b hb => by
      rcases (hlab b hb).1 with h | h | h | h
      · exact .inl (by have := b05.size; omega)
      · exact .inl (by omega)
      · exact .inl (by omega)
      · exact .inr h, hbX.grown hg hbX.size (fun r e => by injection e with e; have := b05.size; omega)⟩
    have HPH := Lib.hid HP
    clear HP SF hent2 hbX hlab hent hl1 hpv kX HX hMX qf hsub
    go_wp2_with fail
    refine ⟨by simp, .inl ⟨_, _, rfl, run_takeDeferred hDl, ?_⟩⟩
    refine ⟨_, results_tmp rfl _ _ _, ?_⟩
    exact HPH.out
  case stop =>
    intro D c pv k X h
    exact h.elim
end
end Go.Proofs.Ytbippmbcgkicaaa.Sto
namespace Go.Proofs.Ytbippmbcgkicaaa.Sto
open Go.RowKit Go.ChangeShapes Go.WideShapes Mem Rc Sl
structure Opr where
  kd : Int
  nn : Int
  nm : Nm
  to : Nm
  A : Option Addr
  n : Nat
  c : Nat
  zs : List Int
def Opr.cells (o : Opr) : List Value := [.int .i64 o.kd, .int .i64 o.nn, encStr o.nm, encStr o.to, .slice o.A o.n o.c]
def kOp (w : World) : St Opr := ⟨5, Opr.cells, fun o => (Lit.int .i64 o.kd).wf = true ∧ (Lit.int .i64 o.nn).wf = true ∧ o.nm.length ≤ maxLen ∧ o.to.length ≤ maxLen ∧ Ints w .u8 w.heap.size o.A o.n o.zs, ⟨0, 0, [], [], none, 0, 0, []⟩, fun _ => rfl, fun v u hu => by
  simp only [Opr.cells, List.mem_cons, List.not_mem_nil, or_false] at hu
  rcases hu with rfl | rfl | rfl | rfl | rfl <;> rfl, by omega⟩
section
variable {H : Type} {enc : TypeId × Value → H} {w : World} {base : Nat} {held : Bool}
theorem cells_someS {a : Addr} {cs : List Value} {n : Nat} (h : w.cells? base a n = some cs) : cs.length = n ∧ ∀ j, j < n → w.cell? (a.add j) = cs[j]? := by
  obtain ⟨h1, h2, h3⟩ := World.cells?_some h
  exact ⟨h2, h3⟩
theorem open_opsL {α : Type} {k : St α} {t e : TypeId} (ht : Try.prog.underlying t = some (.slice e)) (hc : Try.prog.cellsOf e = k.s)
    (one : ∀ (n : Nat) (cs : List Value) (x : DataW H × List MemPlace), DataW.trod enc Try.prog w base (fun _ => true) held n e cs = some x → ∃ r : α, cs = k.cells r ∧ k.wf r)
    {fuel : Nat} {cs : List Value} {x : DataW H × List MemPlace} (hf : DataW.trod enc Try.prog w base (fun _ => true) held fuel t cs = some x) :
    ∃ (A : Option Addr) (m c : Nat) (xs : List α), cs = [.slice A m c] ∧ Lst k w w.heap.size A m xs ∧ m ≤ c ∧ c ≤ maxLen := by
  rcases DataW.trod_slice ht hf with ⟨hcs, _⟩ | ⟨a, len, cap, elems, rest, n, _, hcs, _, hb, hl, hm, hlen, hel, _, _⟩
  · exact ⟨none, 0, 0, [], hcs, Lst.nil _ _ _ _, Nat.le_refl _, by simp [maxLen]⟩
  · have each : ∀ i, i < len → ∃ r : α, k.wf r ∧ ∀ j, j < k.s → w.cell? ((a.add (i * k.s)).add j) = (k.cells r)[j]? := fun i hi => by
      have hi' : i < elems.length := by rw [hlen]; exact hi
      have e := hel i hi
      rw [hc, List.getElem?_eq_getElem hi', Option.bind_eq_some_iff] at e
      obtain ⟨cs, hc, ht⟩ := e
      obtain ⟨r, rfl, hw⟩ := one _ _ _ ht
      exact ⟨r, hw, (cells_someS hc).2⟩
    have hch : ∃ F : Nat → α, ∀ i, i < len → k.wf (F i) ∧ ∀ j, j < k.s → w.cell? ((a.add (i * k.s)).add j) = (k.cells (F i))[j]? :=
      ⟨fun i => if h : i < len then Classical.choose (each i h) else k.d, fun i hi => by
        have := Classical.choose_spec (each i hi)
        simp only [hi, dif_pos]
        exact this⟩
    obtain ⟨F, hF⟩ := hch
    refine ⟨some a, len, cap, (List.range len).map F, hcs, ⟨by simp, fun r hr => ?_, fun h0 => ?_⟩, hl, hm⟩
    · obtain ⟨i, hi, rfl⟩ := List.mem_map.1 hr
      exact (hF i (List.mem_range.1 hi)).1
    · have h00 := (hF 0 h0).2 0 k.pos
      have hk0 : 0 < (k.cells (F 0)).length := by rw [k.len]; exact k.pos
      rw [List.getElem?_eq_getElem hk0, Nat.zero_mul] at h00
      obtain ⟨u0, h00⟩ : ∃ u, w.cell? a = some u := ⟨_, by simpa [Addr.add] using h00⟩
      obtain ⟨b, off, spot⟩ := a
      have hspot : spot = none := by simpa [Addr.add] using World.cell?_spot h00
      subst hspot
      have hlt : b < w.heap.size := by simpa [Addr.add] using World.block_lt_of_cell? w _ h00
      have ea : ∀ o j : Nat, (Addr.mk b o none).add j = ⟨b, o + j, none⟩ := fun o j => by unfold Addr.add; split <;> simp_all
      refine ⟨b, off, rfl, hlt, fun q v hv => ?_⟩
      have hq := (List.getElem?_eq_some_iff.1 hv).1
      rw [flat_length] at hq
      simp only [List.length_map, List.length_range] at hq
      have hq1 : q / k.s < len := Nat.div_lt_of_lt_mul (by rw [Nat.mul_comm]; exact hq)
      have hq2 := Nat.mod_lt q k.pos
      have hq3 : q / k.s * k.s + q % k.s = q := by rw [Nat.mul_comm]; exact Nat.div_add_mod q k.s
      have hv' := hv
      have h4 := flat_at (k := k) ((List.range len).map F) (q / k.s) (q % k.s) hq2 (by simpa using hq1)
      rw [hq3] at h4
      rw [h4] at hv'
      have hg : ((List.range len).map F).getD (q / k.s) k.d = F (q / k.s) := by
        rw [List.getD_eq_getElem?_getD, List.getElem?_map, List.getElem?_range hq1]
        rfl
      rw [hg, ← (hF (q / k.s) hq1).2 (q % k.s) hq2, ea, ea, Nat.add_assoc, hq3] at hv'
      exact hv'
theorem open_opsT {α : Type} {k : St α} {t e : TypeId} (ht : Try.prog.underlying t = some (.slice e)) (hc : Try.prog.cellsOf e = k.s)
    (one : ∀ (n : Nat) (cs : List Value) (x : DataW H × List MemPlace), DataW.trod enc Try.prog w base (fun _ => true) held n e cs = some x → ∃ r : α, cs = k.cells r ∧ k.wf r)
    {A : Option Addr} {m c : Nat} {d : DataW H} {p : List MemPlace} (h : DataW.Trod enc Try.prog w base (fun _ => true) held t (.slice A m c) d p) : ∃ xs, Lst k w w.heap.size A m xs ∧ m ≤ c ∧ c ≤ maxLen := by
  obtain ⟨fuel, hf⟩ := h
  simp only [Value.cells] at hf
  obtain ⟨A', m', c', xs, e, h⟩ := open_opsL ht hc one hf
  simp at e
  obtain ⟨rfl, rfl, rfl⟩ := e
  exact ⟨xs, h⟩
theorem field_str {cs : List Value} {j n : Nat} {x : Option (DataW H × List MemPlace)} (hj : j < cs.length) (h : DataW.trod enc Try.prog w base (fun _ => true) held n 9 ((cs.drop j).take 1) = x) (hx : x.isSome = true) : ∃ k : Nm, cs[j]? = some (encStr k) ∧ k.length ≤ maxLen := by
  obtain ⟨y, rfl⟩ := Option.isSome_iff_exists.1 hx
  obtain ⟨z, h2, _, h3⟩ := DataW.trod_string Try.underlying9 h
  rw [List.drop_eq_getElem_cons hj] at h2
  simp only [List.take_succ_cons, List.take_zero] at h2
  refine ⟨z.data.toList, ?_, by rw [Array.length_toList]; exact h3⟩
  rw [List.getElem?_eq_getElem hj, (List.cons.inj h2).1]
theorem field_bytes {cs : List Value} {j n : Nat} {x : Option (DataW H × List MemPlace)} (hj : j < cs.length) (h : DataW.trod enc Try.prog w base (fun _ => true) held n 31 ((cs.drop j).take 1) = x) (hx : x.isSome = true) : ∃ (A : Option Addr) (m c : Nat) (zs : List Int), cs[j]? = some (.slice A m c) ∧ Ints w .u8 w.heap.size A m zs := by
  obtain ⟨y, rfl⟩ := Option.isSome_iff_exists.1 hx
  have hone : ∃ (A : Option Addr) (m c : Nat) (zs : List Int), (cs.drop j).take 1 = [.slice A m c] ∧ Ints w .u8 w.heap.size A m zs := by
    rcases open_ints Try.underlying31 Try.underlying5 (by kernel_rfl) h with ⟨hcs, _⟩ | ⟨a, l, c, zs, hcs, _, hl, hm, hz, _, hcell, hwz⟩
    · exact ⟨none, 0, 0, [], hcs, Ints.nil _ _ _ _⟩
    · exact ⟨_, _, _, _, hcs, (ints_of_row (.inr ⟨a, rfl, hl, hm, by simpa using hz, hcell, hwz⟩)).1⟩
  obtain ⟨A, m, c, zs, h2, h3⟩ := hone
  rw [List.drop_eq_getElem_cons hj] at h2
  simp only [List.take_succ_cons, List.take_zero] at h2
  exact ⟨A, m, c, zs, by rw [List.getElem?_eq_getElem hj, (List.cons.inj h2).1], h3⟩
theorem opr_fields : ∃ f0 f1 f2 f3 f4 : Field, Try.prog.underlying 33 = some (.struct #[f0, f1, f2, f3, f4]) ∧ (f0.offset = 0 ∧ f0.type = 3) ∧ (f1.offset = 1 ∧ f1.type = 3) ∧ (f2.offset = 2 ∧ f2.type = 9) ∧ (f3.offset = 3 ∧ f3.type = 9) ∧ (f4.offset = 4 ∧ f4.type = 31) :=
  ⟨_, _, _, _, _, Try.underlying33, ⟨rfl, rfl⟩, ⟨rfl, rfl⟩, ⟨rfl, rfl⟩, ⟨rfl, rfl⟩, ⟨rfl, rfl⟩⟩
theorem open_opr (n : Nat) (cs : List Value) (x : DataW H × List MemPlace) (h : DataW.trod enc Try.prog w base (fun _ => true) held n 33 cs = some x) : ∃ o : Opr, cs = (kOp w).cells o ∧ (kOp w).wf o := by
  obtain ⟨f0, f1, f2, f3, f4, hu, ⟨o0, t0⟩, ⟨o1, t1⟩, ⟨o2, t2⟩, ⟨o3, t3⟩, ⟨o4, t4⟩⟩ := opr_fields
  obtain ⟨xs, m, _, _, hl, hxl, hel⟩ := DataW.trod_struct hu h
  have ci : Try.prog.cellsOf 3 = 1 := by kernel_rfl
  have cs1 : Try.prog.cellsOf 9 = 1 := by kernel_rfl
  have cb : Try.prog.cellsOf 31 = 1 := by kernel_rfl
  have cc : Try.prog.cellsOf 33 = 5 := by kernel_rfl
  rw [cc] at hl
  have hx5 : xs.length = 5 := hxl
  have e0 := hel 0 f0 rfl
  have e1 := hel 1 f1 rfl
  have e2 := hel 2 f2 rfl
  have e3 := hel 3 f3 rfl
  have e4 := hel 4 f4 rfl
  rw [o0, t0, ci] at e0
  rw [o1, t1, ci] at e1
  rw [o2, t2, cs1] at e2
  rw [o3, t3, cs1] at e3
  rw [o4, t4, cb] at e4
  obtain ⟨z0, q0, w0⟩ := field_int (by omega) Try.underlying3 e0 (by simp [hx5])
  obtain ⟨z1, q1, w1⟩ := field_int (by omega) Try.underlying3 e1 (by simp [hx5])
  obtain ⟨z2, q2, w2⟩ := field_str (by omega) e2 (by simp [hx5])
  obtain ⟨z3, q3, w3⟩ := field_str (by omega) e3 (by simp [hx5])
  obtain ⟨A, m, c, zs, q4, w4⟩ := field_bytes (by omega) e4 (by simp [hx5])
  refine ⟨⟨z0, z1, z2, z3, A, m, c, zs⟩, ?_, w0, w1, w2, w3, w4⟩
  apply List.ext_getElem?
  intro i
  match i with
  | 0 => exact q0
  | 1 => exact q1
  | 2 => exact q2
  | 3 => exact q3
  | 4 => exact q4
  | i + 5 => rw [List.getElem?_eq_none (by omega), List.getElem?_eq_none (by simp [kOp, Opr.cells])]
end
end Go.Proofs.Ytbippmbcgkicaaa.Sto
namespace Go.Proofs.Ytbippmbcgkicaaa.Sto
open Go.RowKit Go.Shelf Go.Proofs.Ytbippmbcgkicaaa Mem Held Sl Go.Proofs.Ytbippmbcgkicaaa.Range
structure Bth (w0 : World) (ow ow2 : Nat → Nat) (w : World) (s r N M : Nat) (W : Int) (es : List Ent) (l : List Cr) (O : List Ol) : Prop where
  si : SI ow w s W N es
  ref : Ref ow2 w r M l O
  new : ∀ b, ow b ≠ 0 → w0.heap.size ≤ b
  rnew : ∀ b, ow2 b ≠ 0 → w0.heap.size ≤ b
  apart : ∀ b, ow b = 0 ∨ ow2 b = 0
  bel : Below w0.heap.size w0 w
section
variable {w0 w w' : World} {ow ow2 ow' ow2' : Nat → Nat} {s r N M N' M' : Nat} {W W' : Int} {es es' : List Ent} {l l' : List Cr} {O O' : List Ol}
theorem Bth.real (B : Bth w0 ow ow2 w s r N M W es l O) (H : SI ow' w' s W' N' es') (C : Chg ow ow' w w') : Bth w0 ow' ow2 w' s r N' M W' es' l O where
  si := H
  ref := B.ref.keep (C.keep.less fun b hb => by have := B.apart b; omega)
  new := chg_new C B.bel.size B.new
  rnew := B.rnew
  apart b := by
    rcases Nat.lt_or_ge b w.heap.size with h | h
    · rw [C.same b h]; exact B.apart b
    · exact .inr (B.ref.free h)
  bel := B.bel.trans (chg_below C B.bel.size B.new)
theorem Bth.refd (B : Bth w0 ow ow2 w s r N M W es l O) (H : Ref ow2' w' r M' l' O') (C : Chg ow2 ow2' w w') : Bth w0 ow ow2' w' s r N M' W es l' O' where
  si := B.si.keep (C.keep.less fun b hb => by have := B.apart b; omega)
  ref := H
  new := B.new
  rnew := chg_new C B.bel.size B.rnew
  apart b := by
    rcases Nat.lt_or_ge b w.heap.size with h | h
    · rw [C.same b h]; exact B.apart b
    · exact .inl (B.si.sto.free h)
  bel := B.bel.trans (chg_below C B.bel.size B.rnew)
theorem Bth.below (B : Bth w0 ow ow2 w s r N M W es l O) (hb : Below w.heap.size w w') : Bth w0 ow ow2 w' s r N M W es l O where
  si := B.si.below hb
  ref := B.ref.below hb
  new := B.new
  rnew := B.rnew
  apart := B.apart
  bel := B.bel.trans (hb.mono B.bel.size)
theorem Bth.grown (B : Bth w0 ow ow2 w s r N M W es l O) {row : Option Nat} (hg : w.grownBy w' row) (hr : ∀ b, row = some b → ow b = 0 ∧ ow2 b = 0 ∧ w0.heap.size ≤ b) : Bth w0 ow ow2 w' s r N M W es l O where
  si := B.si.keep (KeepsP.of_grown hg fun b e hb => hb (hr b e).1)
  ref := B.ref.keep (KeepsP.of_grown hg fun b e hb => hb (hr b e).2.1)
  new := B.new
  rnew := B.rnew
  apart := B.apart
  bel := B.bel.grown hg B.bel.size fun b e => (hr b e).2.2
theorem Bth.more (B : Bth w0 ow ow2 w s r N M W es l O) (hN : N ≤ N') (hM : M ≤ M') : Bth w0 ow ow2 w s r N' M' W es l O := ⟨B.si.more hN, B.ref.more hM, B.new, B.rnew, B.apart, B.bel⟩
theorem Bth.rd (B : Bth w0 ow ow2 w s r N M W es l O) {A : Option Addr} {n c : Nat} {zs : List Int} (hz : Ints w0 .u8 w0.heap.size A n zs) (hn : n ≤ 1099511627776) : Rd (fun b => b < w0.heap.size) w ⟨A, n, c, zs⟩ :=
  ⟨(hz.below B.bel).more B.bel.size, hn, fun b off p e h0 => by
    obtain ⟨b', off', e', hb, _⟩ := hz.2.2 h0
    have e : A = some ⟨b, off, p⟩ := e
    rw [e] at e'
    injection e' with e'
    injection e' with e1 _ _
    subst e1
    exact hb⟩
end
structure Say (L : Lp) (W : Int) (l : List Cr) (O : List Ol) : Prop where
  doc : Doc L W (absC l) (absO O)
  few : l.length ≤ O.length
section
variable {L : Lp} {W : Int} {l l' : List Cr} {O O' : List Ol} {x y : Nm}
theorem Say.ent (h : Say L W l O) {m : Nat} {d : Cr} (hm : l[m]? = some d) : shwP L d.k = (d.sh, d.x.zs) ∧ verP L d.k = d.a.ys.map (·.zs) := by
  have he := at_some (x := d.k) h.doc.srt (absC_at hm) rfl
  exact ⟨(h.doc.shw _).symm.trans (shw_of he), (h.doc.ver _).symm.trans (ver_of he)⟩
theorem Say.show_ (h : Say L W l O) (hg : GoodL L W) {m : Nat} {d : Cr} (hm : l[m]? = some d) (b : Bool) (z : Bs) : Say (modP d.k (shwF W ⟨0, b, z.zs⟩) L) W (l.set m ⟨d.k, b, z, d.a⟩) O :=
  ⟨by rw [absC_set]; exact h.doc.show_ hg (absC_at hm) ⟨0, b, z.zs⟩, by rw [List.length_set]; exact h.few⟩
theorem Say.delete (h : Say L W l O) (hg : GoodL L W) {m : Nat} {d : Cr} (hm : l[m]? = some d) (hs : d.sh = true) : (delP W d.k L).1 = true ∧ Say (delP W d.k L).2 W (l.set m ⟨d.k, false, Bs.nil, d.a⟩) O := by
  have h1 := (h.ent hm).1
  unfold delP
  rw [h1, hs]
  exact ⟨rfl, h.show_ hg hm false Bs.nil⟩
theorem Say.delete_no (h : Say L W l O) (hf : (shwC (absC l) x).1 = false) : delP W x L = (false, L) := by
  rw [h.doc.shw x] at hf
  unfold delP
  rw [hf]
  rfl
theorem Say.replay (h : Say L W l O) (hg : GoodL L W) {m j : Nat} {d : Cr} {z : Bs} (hm : l[m]? = some d) (hz : d.a.ys[j]? = some z) : (replayP W d.k (j : Int) L).1 = true ∧ Say (replayP W d.k (j : Int) L).2 W (l.set m ⟨d.k, true, z, d.a⟩) O := by
  have h1 := (h.ent hm).2
  unfold replayP
  rw [if_neg (by omega), Int.toNat_natCast, h1, List.getElem?_map, hz]
  exact ⟨rfl, h.show_ hg hm true z⟩
theorem Say.replay_no (h : Say L W l O) {q : Int} (hq : q < 0 ∨ ((verC (absC l) x).length : Int) ≤ q) : replayP W x q L = (false, L) := by
  rw [h.doc.ver x] at hq
  unfold replayP
  by_cases h0 : q < 0
  · rw [if_pos h0]
  · rw [if_neg h0, List.getElem?_eq_none (by omega)]
theorem Say.flip (h : Say L W l O) (hg : GoodL L W) {m j : Nat} {d : Cr} {z : Bs} (hm : l[m]? = some d) (hs : d.sh = true) (hj : j / 8 < d.x.zs.length) (hz : z.zs = flipZ d.x.zs j) : (flipP W d.k (j : Int) L).1 = true ∧ Say (flipP W d.k (j : Int) L).2 W (l.set m ⟨d.k, true, z, d.a⟩) O := by
  have h1 := (h.ent hm).1
  unfold flipP
  rw [h1, if_neg (by simp only []; omega), Int.toNat_natCast]
  refine ⟨rfl, ?_⟩
  have := h.show_ hg hm true z
  rw [hz] at this
  exact this
theorem Say.flip_no (h : Say L W l O) (hg : GoodL L W) {q : Int} (hq : (shwC (absC l) x).1 = false ∨ q < 0 ∨ ((shwC (absC l) x).2.length : Int) ≤ q / 8) : flipP W x q L = (false, L) := by
  rw [h.doc.shw x] at hq
  unfold flipP
  refine if_pos ?_
  rcases hq with hq | hq | hq
  · rw [shw_off hg hq]
    by_cases h0 : q < 0
    · exact .inl h0
    · exact .inr (by show ((0 : Nat) : Int) ≤ _; omega)
  · exact .inl hq
  · exact .inr hq
theorem Say.swap_no (h : Say L W l O) (hf : (shwC (absC l) x).1 = false ∨ (shwC (absC l) y).1 = false) : swapP W x y L = (false, L) := by
  rw [h.doc.shw x, h.doc.shw y] at hf
  unfold swapP
  rcases hf with hf | hf <;> rw [hf]
  · rw [Bool.false_and]; rfl
  · rw [Bool.and_false]; rfl
theorem Say.swap (h : Say L W l O) (hg : GoodL L W) {m m' : Nat} {d d' : Cr} (hm : l[m]? = some d) (hs : d.sh = true) (hm' : l[m']? = some d') (hs' : d'.sh = true) :
    (swapP W d.k d'.k L).1 = true ∧ Say (swapP W d.k d'.k L).2 W ((l.set m ⟨d.k, true, d'.x, d.a⟩).set m' ⟨d'.k, true, d.x, d'.a⟩) O := by
  have h1 := (h.ent hm).1
  have h2 := (h.ent hm').1
  unfold swapP
  rw [h1, h2, hs, hs']
  refine ⟨rfl, ?_⟩
  have a1 := h.show_ hg hm true d'.x
  have g1 : GoodL (modP d.k (shwF W ⟨0, true, d'.x.zs⟩) L) W := good_show hg (fun h => by cases h)
  have hlt := (List.getElem?_eq_some_iff.1 hm).1
  by_cases hmm : m = m'
  · subst hmm
    rw [hm] at hm'
    injection hm' with hm'
    subst hm'
    have e : (l.set m ⟨d.k, true, d.x, d.a⟩)[m]? = some ⟨d.k, true, d.x, d.a⟩ := by rw [List.getElem?_set, if_pos rfl, if_pos hlt]
    exact a1.show_ g1 e true d.x
  · have e : (l.set m ⟨d.k, true, d'.x, d.a⟩)[m']? = some d' := by rw [List.getElem?_set, if_neg hmm]; exact hm'
    exact a1.show_ g1 e true d.x
theorem Say.swap_same (h : Say L W l O) (hg : GoodL L W) {m : Nat} {d : Cr} (hm : l[m]? = some d) (hs : d.sh = true) : (swapP W d.k d.k L).1 = true ∧ Say (swapP W d.k d.k L).2 W l O := by
  obtain ⟨h1, h2⟩ := h.swap hg hm hs hm hs
  refine ⟨h1, ?_⟩
  have e : (⟨d.k, true, d.x, d.a⟩ : Cr) = d := by rw [← hs]
  have hlt := (List.getElem?_eq_some_iff.1 hm).1
  have e2 : l.set m d = l := by
    apply List.ext_getElem?
    intro j
    rw [List.getElem?_set]
    split
    · rename_i h; subst h; rw [hm]
    · rfl
  rw [e, e2, e2] at h2
  exact h2
theorem Say.roll_no (h : Say L W l O) {q : Int} (hq : q < 0 ∨ (O.length : Int) < q) : rollsP W q L = (false, L) := by
  have hW : (O.length : Int) = W := by have := h.doc.len; unfold absO at this; rw [List.length_map] at this; exact this
  rw [hW] at hq
  exact if_pos hq
theorem Say.roll_zero (h : Say L W l O) : rollsP W 0 L = (true, L) := by
  have hW : (O.length : Int) = W := by have := h.doc.len; unfold absO at this; rw [List.length_map] at this; exact this
  unfold rollsP
  rw [if_neg (by omega), if_pos rfl]
theorem Say.roll (h : Say L W l O) (hg : GoodL L W) {q : Int} {j : Nat} {o : Ol} (hq : q = (O.length : Int) - (j : Int)) (h0 : 0 < q) (ho : O[j]? = some o) : (rollsP W q L).1 = true ∧ Say (rollsP W q L).2 W (rolR o.l l) O := by
  have hW : (O.length : Int) = W := by have := h.doc.len; unfold absO at this; rw [List.length_map] at this; exact this
  have hao : (absO O)[j]? = some (absC o.l) := by unfold absO; rw [List.getElem?_map, ho]; rfl
  have hso := (h.doc.old j _ hao).1
  unfold rollsP
  rw [if_neg (by omega), if_neg (by omega), show W - q = (j : Int) by omega]
  refine ⟨rfl, ?_, by unfold rolR; rw [List.length_map]; exact h.few⟩
  rw [rolR_abs hso]
  exact h.doc.roll hg hao
theorem Say.put (h : Say L W l O) (hg : GoodL L W) {zs : List Int} (hO : absO O' = absO O ++ [absC l])
    (hl : (∃ m d, l[m]? = some d ∧ d.k = x ∧ absC l' = (absC l).set m ⟨x, true, zs, d.p.all ++ [zs]⟩) ∨ (∃ m, AtC (absC l) x m ∧ (∀ d, (absC l)[m]? = some d → d.k ≠ x) ∧ absC l' = (insC (absC l) m ⟨x, false, [], []⟩).set m ⟨x, true, zs, [zs]⟩)) :
    Say (putP (W + 1) x zs L) (W + 1) l' O' := by
  have hlen : O'.length = O.length + 1 := by have := congrArg List.length hO; unfold absO at this; simpa using this
  have hl' : ∀ X : List Cp, absC l' = X → l'.length = X.length := fun X e => by rw [← e]; unfold absC; rw [List.length_map]
  have hl0 : (absC l).length = l.length := by unfold absC; rw [List.length_map]
  have hf := h.few
  rcases hl with ⟨m, d, hm, hk, e⟩ | ⟨m, ha, hn, e⟩
  · refine ⟨?_, by have := hl' _ e; rw [List.length_set] at this; omega⟩
    rw [e, hO]
    subst hk
    exact h.doc.put_is hg (absC_at hm) zs
  · refine ⟨?_, by have h1 := hl' _ e; have h2 := ha.le; unfold insC at h1; simp at h1; omega⟩
    rw [e, hO]
    exact h.doc.put_no hg ha hn zs
theorem Say.same {L' : Lp} (h : Say L W l O) (he : ∀ x, entP L' x = entP L x) : Say L' W l O := ⟨h.doc.same he, h.few⟩
end
end Go.Proofs.Ytbippmbcgkicaaa.Sto
namespace Go.Proofs.Ytbippmbcgkicaaa.Help
open Go.RowKit Mem
theorem own_any (B : Nat) (A : Option Addr) (n c : Nat) (zs : List Int) (f : Int) (w : World) (h : Ints w .u8 B A n zs) (hB : B ≤ w.heap.size) (hn : n ≤ 1099511627776) (hf : (Lit.int .u8 f).wf = true) :
    Calls Try.prog 21 #[.slice A n c, .int .u8 f] w fun e w' => ∃ g, e = .returned (.slice (some ⟨g, 0, none⟩) n (n + 3)) ∧ w.heap.size ≤ g ∧ Row w' g 5 .u8 (zs ++ [f, f, f]) ∧ Below w.heap.size w w' := by
  obtain ⟨i0, hi0, hz0, hs0, hb0⟩ := info_parts info_u8
  have HL := Lib.hid h.1
  go_enter Try.func21, Try.ntmps21
  go_wp2_with (first
    | (at_make; refine wpList_make_own _ rfl _ _ 31 rfl w.heap.size 5 i0 (.int .u8 0) 1 Try.underlying31 hi0 hz0 hs0 .i64 .i64 _ (n + 3) rfl rfl (by simp) (by rw [hb0]; omega) (by unfold maxLen; omega) (Nat.le_refl _) ?_; intro w1 hown1 hg1)
    | (at_builtin; refine wpList_append_ints_fits _ rfl _ _ 31 rfl w.heap.size 5 .u8 1 Try.underlying31 info_u8 w.heap.size (n + 3) [] rfl ⟨by simp, hown1⟩ B A n c zs rfl (h.keep fun p hp => World.cell?_of_block (hg1.block _ (by omega) (by simp))) (by simp) ?_; intro w2 hown2 hg2))
  simp only [List.length_nil, Nat.zero_add, List.nil_append] at hown2
  have hfill := hown2.fill (M := (zs ++ [f, f, f]).map (Value.int .u8)) (by rw [List.map_append, List.take_left' (by simpa using HL.out)])
  have hbel : Below w.heap.size w w2 := ((Below.refl _ _).grown hg1 (Nat.le_refl _) (by simp)).grown hg2 (by have := hg1.size; omega) (by simp)
  clear hown2 hown1 hg1 hg2
  go_loopw [7] (fun i wr => ∃ k : Nat, n ≤ k ∧ k ≤ n + 3 ∧ i = .int .i64 k ∧ Below w.heap.size w wr ∧ Fill wr w.heap.size 5 (n + 3) ((zs ++ [f, f, f]).map (Value.int .u8)) k) (fun i _ => n + 3 - (intOf i).toNat)
  case atStart => exact ⟨n, by omega, by omega, rfl, hbel, hfill⟩
  case round =>
    obtain ⟨k, hk0, hk, rfl, hbl, hfl⟩ := hrel
    by_cases hlt : k < n + 3
    · obtain ⟨u, hu⟩ := hfl.cell hlt
      have hfr := hfl.frozen k
      have HS := Lib.hid (hfl.step (u := .int .u8 f) (by
        have hz := HL.out
        rw [List.getElem?_map, List.getElem?_append_right (by omega), hz]
        have : k - n = 0 ∨ k - n = 1 ∨ k - n = 2 := by omega
        rcases this with e | e | e <;> rw [e] <;> rfl) hlt)
      have hlt' : (k : Int) < (n : Int) + 3 := by omega
      have hk1 : (0 : Int) ≤ (k : Int) := by omega
      go_wp2_with fail
      go_roundw
      case rel => exact ⟨k + 1, by omega, by omega, by go_num, hbl.setCell (by simp) _, HS.out⟩
      case measure => simp [intOf]; omega
    · have HD := Lib.hid (hfl.done (by omega) (by have := HL.out; simp; omega))
      have hlt' : ¬ ((k : Int) < (n : Int) + 3) := by omega
      clear hlt hk hk0
      go_wp2_with fail
      go_ret
      exact ⟨w.heap.size, rfl, Nat.le_refl _, ⟨fun z hz => by
        rcases List.mem_append.1 hz with hz | hz
        · exact h.2.1 z hz
        · have : z = f := by simpa using hz
          rw [this]; exact hf, HD.out⟩, hbl⟩
theorem kept_any (B : Nat) (A : Option Addr) (n c g : Nat) (zs : List Int) (f : Int) (w : World) (h : Ints w .u8 B A n zs) (hn : n ≤ 1099511627776) (hr : Row w g 5 .u8 (zs ++ [f, f, f])) :
    Calls Try.prog 23 #[.slice (some ⟨g, 0, none⟩) n (n + 3), .slice A n c, .int .u8 f] w fun e w' => e = .returned (.bool true) ∧ Still w w' := by
  have HL := Lib.hid h.1
  have hi := hr.ints (n := n) (by simp; have := HL.out; omega)
  rw [List.take_left' HL.out] at hi
  go_enter Try.func23, Try.ntmps23
  go_wp2_with fail
  refine (Help.plain_any _ _ _ _ _ _ _ _ _ _ _ hi h (by omega) (by omega)).mono ?_
  rintro e w1 ⟨rfl, hst⟩
  go_wp2_with fail
  go_loop [8] (fun i => ∃ k : Nat, n ≤ k ∧ k ≤ n + 3 ∧ i = .int .i64 k) (fun i => n + 3 - (intOf i).toNat)
  case atStart => exact ⟨n, by omega, by omega, rfl⟩
  case round =>
    obtain ⟨k, hk0, hk, rfl⟩ := hrel
    by_cases hlt : k < n + 3
    · have hc : w1.cell? ⟨g, k, none⟩ = some (.int .u8 f) := by
        have hz := HL.out
        rw [hst.cell, hr.cell (by simp; omega)]
        simp only [List.getD_eq_getElem?_getD]
        rw [List.getElem?_append_right (by omega), hz]
        have : k - n = 0 ∨ k - n = 1 ∨ k - n = 2 := by omega
        rcases this with e | e | e <;> rw [e] <;> rfl
      have hlt' : (k : Int) < (n : Int) + 3 := by omega
      have hk1 : (0 : Int) ≤ (k : Int) := by omega
      go_wp2_with fail
      go_round
      case rel => exact ⟨k + 1, by omega, by omega, by go_num⟩
      case measure => simp [intOf]; omega
    · go_wp2_with fail
      go_ret
      exact ⟨rfl, hst⟩
end Go.Proofs.Ytbippmbcgkicaaa.Help
