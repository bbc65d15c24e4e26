/-
  The document's store: Put, by its contract.
-/
import Derived.Test.YtbippmbcgkicaaaB12
set_option linter.unusedVariables false
namespace Go.Proofs.Ytbippmbcgkicaaa.Sto
open Go.RowKit Go.Shelf Go.Proofs.Ytbippmbcgkicaaa Mem Held Sl Go.Proofs.Ytbippmbcgkicaaa.Range
attribute [local irreducible] wpList wpListIn Calls
theorem own_partsC {w : World} {base n c h : Nat} {A : Option Addr} {rs : List Cr} (ho : OwnL kC 77 w base (.slice A n c) rs) (hw : ∀ r ∈ rs, kC.wf r) (hh : h ≤ n) :
    ∃ A1 A2 c2, (∀ W : World, (Instr.sliceAt 26 (.slice A n c) none (some (.int .i64 (h : Int))) none).run Try.prog W = .ok (.slice A1 h c) W) ∧ (∀ W : World, (Instr.sliceAt 26 (.slice A n c) (some (.int .i64 (h : Int))) none none).run Try.prog W = .ok (.slice A2 (n - h) c2) W) ∧
      Lst kC w w.heap.size A1 h (rs.take h) ∧ Lst kC w w.heap.size A2 (n - h) (rs.drop h) := by
  have hl := OwnL.lst ho hw
  have hL := hl.1
  rcases Nat.eq_zero_or_pos n with h0 | h0
  · obtain rfl : h = 0 := by omega
    obtain ⟨A', c', e, hc, _⟩ := OwnL.form ho
    injection e with e1 e2 e3
    subst h0
    obtain rfl : rs = [] := List.eq_nil_of_length_eq_zero hL
    rcases ho.2 with ⟨e, _⟩ | ⟨g, cap, cur, e, _⟩
    · injection e with e1 e2 e3
      subst e1
      subst e3
      obtain ⟨A2, c2, hb⟩ := Mg.run_back_nil (P := Try.prog) 4 Try.underlying26 (by kernel_rfl) none 0 0
      exact ⟨none, A2, c2, fun W => Mg.run_front_nil (P := Try.prog) 4 Try.underlying26 (by kernel_rfl) W, hb, Lst.nil _ _ _ _, Lst.nil _ _ _ _⟩
    · injection e with e1 e2 e3
      subst e1
      obtain ⟨A2, c2, hb⟩ := Mg.run_back_nil (P := Try.prog) 4 Try.underlying26 (by kernel_rfl) (some ⟨g, 0, none⟩) 0 c
      exact ⟨_, A2, c2, fun W => run_front_s (P := Try.prog) 4 Try.underlying26 (by kernel_rfl) g 0 0 c (h := 0) (by omega) W, hb, Lst.nil _ _ _ _, Lst.nil _ _ _ _⟩
  · obtain ⟨b, off, rfl, hb, hr⟩ := hl.2.2 h0
    obtain ⟨A', c', e, hc, _⟩ := OwnL.form ho
    injection e with e1 e2 e3
    have hnc : n ≤ c := by rw [← hL, e3]; exact hc
    have hd : Lst kC w w.heap.size (some ⟨b, off + h * 4, none⟩) (n - h) (rs.drop h) := by
      refine ⟨by rw [List.length_drop, hL], fun x hx => hl.2.1 x (List.mem_of_mem_drop hx), fun _ => ⟨b, off + h * 4, rfl, hb, fun j v hv => ?_⟩⟩
      have hf : Sl.flat kC (rs.drop h) = (Sl.flat kC rs).drop (h * 4) := (flat_drop (k := kC) rs h (by omega)).symm
      rw [hf, List.getElem?_drop] at hv
      have := hr (h * 4 + j) v hv
      rwa [← Nat.add_assoc] at this
    by_cases hhn : h < c
    · exact ⟨_, _, _, fun W => run_front_s (P := Try.prog) 4 Try.underlying26 (by kernel_rfl) b off n c (h := h) (by omega) W, fun W => run_back_s (P := Try.prog) 4 Try.underlying26 (by kernel_rfl) b off n c (l := h) hh hhn W, lst_take hl h hh, hd⟩
    · obtain rfl : h = n := by omega
      obtain ⟨A2, c2, hb2⟩ := Mg.run_back_nil (P := Try.prog) 4 Try.underlying26 (by kernel_rfl) (some ⟨b, off, none⟩) h c
      refine ⟨_, A2, c2, fun W => run_front_s (P := Try.prog) 4 Try.underlying26 (by kernel_rfl) b off h c (h := h) (by omega) W, fun W => by rw [Nat.sub_self]; exact hb2 W, lst_take hl h hh, ?_⟩
      rw [Nat.sub_self, List.drop_of_length_le (by omega)]
      exact Lst.nil _ _ _ _
section
variable {α : Type} {k : St α} {P : Program} {ops : Array Oper} {o : Oper} {a : Act} {w : World} {Q : Exit → Act → World → Prop}
theorem op_build_lst1 (i : Nat) (d : Option Tmp) {K : Act → World → Prop} (ts e : TypeId) (n : Nat) {parts : Array (Nat × Operand)} (z : Value) (bytes : Nat) (xs : List α) (hi : ops[i]? = some o) (hd : o.dst = d) (hw : Region.wanted o (yielded ops a.tmps) = true)
    (ho : o.op = .buildSlice ts n parts) (hu : P.underlying ts = some (.slice e)) (hinfo : (P.info? e).map (fun i => (i.zero, i.size, i.bytes)) = some (some z, k.s, bytes)) (h1 : k.s = 1)
    (hn : xs.length = n) (hp : (parts.map fun (i, x) => (i, a.eval x)).toList = ((Sl.flat k xs).zipIdx 0).map fun x => (x.2, x.1)) (hc : ∀ v ∈ Sl.flat k xs, v.cells = #[v]) (h0 : 0 < n) (h24 : n ≤ 16777216)
    (h : ∀ g w', Blk w' g e (Sl.flat k xs).toArray → Below w.heap.size w w' → Hid (w.heap.size ≤ g) → K (a.put d (.slice (some ⟨g, 0, none⟩) n n)) w') : wpOp P ops Q i K a w := by
  subst hd
  refine op_wp i hi hw ?_
  obtain ⟨ie, hie, hz0, hs, hb⟩ := info_parts hinfo
  have hl : (Sl.flat k xs).length = n := by rw [Sl.flat_length, hn, h1, Nat.mul_one]
  refine Go.wp_buildSlice ts e n parts ho (Sl.flat k xs).toArray ie z hu hie hz0 (by rw [hs, h1]; omega) (by rw [hs, h1]; omega) ?_ (h _ _ (heap_alloc_new w _) ((Below.refl _ w).alloc (Nat.le_refl _) _) (Lib.hid (Nat.le_refl _)))
  rw [hp, hs, h1]
  exact Go.Great.fill_flat (Sl.flat k xs) _ hc (by simp [hl])
end
section
variable {ow : Nat → Nat} {w : World} {r N : Nat} {l : List Cr} {O : List Ol} {x : Nm}
theorem set_new {w1 : World} (H : Ref ow w r N l O) (hb : Below w.heap.size w w1) {m : Nat} (hm : m < l.length) {e : Cr} (he : CrOk (fun b => ow b = 1 ∨ w.heap.size ≤ b) w1 N e) (hN : N ≤ 500000) :
    Calls Try.prog 35 #[.pointer (some ⟨r, 0, none⟩), .int .i64 (m : Int), .agg #[encStr e.k, .bool e.sh, .slice e.x.A e.x.n e.x.c, .slice e.a.A e.a.n e.a.c]] w1 fun res w' => res = .returned (.tuple #[]) ∧ ∃ ow', Ref ow' w' r N (l.set m e) O ∧ Chg ow ow' w w' := by
  obtain ⟨ow1, H1, C1, hf⟩ := H.fresh hb
  refine (set_any H1 hm (he.less fun b hb hlt => ?_) hN).mono ?_
  · rcases hb with h | h
    · rw [C1.same b (H.low b (by omega))]; exact h
    · exact hf b h hlt
  · rintro res w' ⟨rfl, ow', H2, C2⟩
    exact ⟨rfl, ow', H2, C1.trans C2⟩
theorem Ref.olden {A A1 A' : Option Addr} {n c n1 c1 n' c' : Nat} {v : Value} {w' : World} (H : Ref ow w r N l O) (hb0 : Blk w r 29 #[.slice A n c, v]) (HF : FrC (fun b => ow b = 1) w N A n c l)
    (hk : KeepsP (fun b => ow b ≠ 2 ∧ b < w.heap.size) w w') (hb : Blk w' r 29 #[.slice A n c, .slice A' n' c'])
    (o1 : OwnL kC 77 w' w.heap.size (.slice A1 n1 c1) l) (ho : OwnL kO 26 w' 0 (.slice A' n' c') (O ++ [⟨A1, n1, c1, l⟩])) (hl : ∀ b, (Value.slice A' n' c').ownBlock = some b → ow b = 2 ∨ w.heap.size ≤ b) :
    ∃ ow', Ref ow' w' r (N + 1) l (O ++ [⟨A1, n1, c1, l⟩]) ∧ Chg ow ow' w w' := by
  have hS : ∀ b, ow b = 1 → (Value.slice A' n' c').ownBlock ≠ some b := fun b h e => by
    have := H.low b (by omega)
    rcases hl b e with h9 | h9 <;> omega
  have hk1 : KeepsP (fun b => ow b = 1) w w' := ⟨hk.os, hk.tape, hk.output, hk.size, fun b o hb ho => hk.block b o ⟨by have h0 : ow b = 1 := hb; omega, (Array.getElem?_eq_some_iff.1 ho).1⟩ ho⟩
  refine H.step hk hb ((HF.keep hk1).more (Nat.le_succ N) |>.less fun b hb _ => ⟨.inl hb, hS b hb⟩) ho hl (fun o h => ?_) (by have := H.few; simp; omega)
  rcases List.mem_append.1 h with h | h
  · exact ((H.old o h).keep hk1).more (Nat.le_succ N) |>.less fun b hb _ => ⟨.inl hb, hS b hb⟩
  · rw [List.mem_singleton.1 h]
    exact ⟨OwnL.less o1 (Nat.zero_le _), fun b e => ⟨.inr (OwnL.lt o1 b e).1, own_apart o1 ho (by decide) e⟩, fun e he => ((HF.ok e he).keep hk1).more (Nat.le_succ N) |>.less fun b hb _ => ⟨.inl hb, hS b hb⟩, Nat.le_trans HF.few (Nat.le_succ N)⟩
end
def PutPost (ow : Nat → Nat) (w : World) (r N : Nat) (l : List Cr) (O : List Ol) (x : Nm) (zs : List Int) (e : Ending) (w' : World) : Prop :=
  e = .returned (.tuple #[]) ∧ ∃ ow' l' O', Ref ow' w' r (N + 2) l' O' ∧ Chg ow ow' w w' ∧ absO O' = absO O ++ [absC l] ∧
    ((∃ m d, l[m]? = some d ∧ d.k = x ∧ absC l' = (absC l).set m ⟨x, true, zs, d.p.all ++ [zs]⟩) ∨
     (∃ m, AtC (absC l) x m ∧ (∀ d, (absC l)[m]? = some d → d.k ≠ x) ∧ absC l' = (insC (absC l) m ⟨x, false, [], []⟩).set m ⟨x, true, zs, [zs]⟩))
section
variable {ow : Nat → Nat} {w : World} {r N : Nat} {l : List Cr} {O : List Ol} {x : Nm}
set_option maxRecDepth 100000 in
set_option maxHeartbeats 32000000 in
theorem rput_any (H : Ref ow w r N l O) {y : Bs} {Sy : Nat → Prop} (hy : Rd Sy w y) (hSy : ∀ b, Sy b → ow b ≠ 2) (hN : N ≤ 400000) :
    Calls Try.prog 22 #[.pointer (some ⟨r, 0, none⟩), encStr x, .slice y.A y.n y.c] w fun e w' => PutPost ow w r N l O x y.zs e w' := by
  obtain ⟨A, n, c, A', n', c', hb, HF, HO, hlb⟩ := H.blk
  have hrl := hb.lt
  have HLST := Lib.hid (OwnL.lst HF.own (fun _ _ => trivial))
  have HLEN := Lib.hid HF.len
  have HLN := Lib.hid (Nat.le_trans HF.few hN)
  have HON := Lib.hid (Nat.le_trans H.few hN)
  have HOO := Lib.hid HO
  have HLB := Lib.hid hlb
  have HOLD := Lib.hid (fun (w' : World) (A1 : Option Addr) (n1 c1 : Nat) (A' : Option Addr) (n' c' : Nat) => H.olden (w' := w') (A1 := A1) (n1 := n1) (c1 := c1) (A' := A') (n' := n') (c' := c') hb HF)
  have HIN0 := Lib.hid (fun (V : World) (hV : KeepsP (fun b => ow b ≠ 2 ∧ b < w.heap.size) w V) => (hy.less (S' := fun b => ow b ≠ 2 ∧ b < w.heap.size) (fun b hb hlt => ⟨hSy b hb, hlt⟩)).keep hV)
  clear HF HO hlb
  go_enter Try.func22, Try.ntmps22
  go_wp2_with fail
  refine wp_region_bar (T := fun W => Below w.heap.size w W) (s := 11) (by kernel_rfl) ?_
  change wpAnyB _ _ _ _ _ _ _ _ _ w.drew
  have T0 : Below w.heap.size w w.drew := (Below.refl _ _).drew
  refine Held.takeA (v := .pointer (some ⟨r, 0, none⟩)) 0 (some 9) rfl rfl (by kernel_rfl) (by kernel_rfl) (by kernel_rfl) (by decide) (fun _ _ _ h => h) rfl (Held.y_move rfl rfl) (fun _ => T0) ?_
  simp only [Act.put, Z1, Z2, Z3]
  refine Held.takeB (v := .pointer (some ⟨r, 0, none⟩)) 1 (some 10) [2, 3, 4, 11] rfl rfl (by kernel_rfl) (by kernel_rfl) (by kernel_rfl) (by kernel_rfl) (fun _ _ _ h => h) rfl (Held.y_move rfl rfl) T0 ?_
  simp only [Act.put, Z1, Z2, Z3]
  refine Held.takeB (v := .pointer (some ⟨r, 0, none⟩)) 2 (some 11) [3, 4, 11] rfl rfl (by kernel_rfl) (by kernel_rfl) (by kernel_rfl) (by kernel_rfl) (fun _ _ _ h => h) rfl (Sl.y_nil rfl rfl) T0 ?_
  simp only [Act.put, Z1, Z2, Z3]
  refine Held.takeB (v := .pointer (some ⟨r, 1, none⟩)) 3 (some 12) [4, 11] rfl rfl (by kernel_rfl) (by kernel_rfl) (by kernel_rfl) (by kernel_rfl) (fun _ _ _ h => h) rfl (Held.y_field (k := 1) (s := 0) rfl rfl Try.underlying29 rfl (by kernel_rfl) rfl) T0 ?_
  simp only [Act.put, Z1, Z2, Z3]
  refine Held.takeB (v := .slice A' n' c') 4 (some 13) [11] rfl rfl (by kernel_rfl) (by kernel_rfl) (by kernel_rfl) (by kernel_rfl) (fun _ _ _ h => h) rfl (Held.y_load rfl rfl (by kernel_rfl) (fun W hW => (hb.below hW hrl).cell rfl)) T0 ?_
  simp only [Act.put, Z1, Z2, Z3]
  refine Held.takeB (v := .pointer (some ⟨r, 0, none⟩)) 5 (some 14) [6, 7, 8, 9, 11] rfl rfl (by kernel_rfl) (by kernel_rfl) (by kernel_rfl) (by kernel_rfl) (fun _ _ _ h => h) rfl (Held.y_move rfl rfl) T0 ?_
  simp only [Act.put, Z1, Z2, Z3]
  refine Held.takeB (v := .pointer (some ⟨r, 0, none⟩)) 6 (some 15) [7, 8, 9, 11] rfl rfl (by kernel_rfl) (by kernel_rfl) (by kernel_rfl) (by kernel_rfl) (fun _ _ _ h => h) rfl (Sl.y_nil rfl rfl) T0 ?_
  simp only [Act.put, Z1, Z2, Z3]
  refine Held.takeB (v := .pointer (some ⟨r, 0, none⟩)) 7 (some 16) [8, 9, 11] rfl rfl (by kernel_rfl) (by kernel_rfl) (by kernel_rfl) (by kernel_rfl) (fun _ _ _ h => h) rfl (Held.y_field (k := 0) (s := 0) rfl rfl Try.underlying29 rfl (by kernel_rfl) rfl) T0 ?_
  simp only [Act.put, Z1, Z2, Z3]
  refine Held.takeB (v := .slice A n c) 8 (some 17) [9, 11] rfl rfl (by kernel_rfl) (by kernel_rfl) (by kernel_rfl) (by kernel_rfl) (fun _ _ _ h => h) rfl (Held.y_load rfl rfl (by kernel_rfl) (fun W hW => (hb.below hW hrl).cell rfl)) T0 ?_
  simp only [Act.put, Z1, Z2, Z3]
  refine Held.oneB 9 (by kernel_rfl) ?_
  refine op_append_lst0 (k := kC) 9 (some 18) 26 77 rfl rfl rfl rfl Try.underlying26 _ 72 info_kC rfl w.heap.size w.heap.size n c A (.slice none 0 0) [] l rfl rfl (OwnL.nil _ _ _ _) (Lst.below HLST.out T0) (by have := HLN.out; have := HLEN.out; simp; omega) (by omega) T0.size ?_
  intro v1 w1 o1 g1 n1
  have o1 : OwnL kC 77 w1 w.heap.size v1 l := o1
  obtain ⟨A1, m1, c1, rfl, hm1, -⟩ := OwnL.form2 o1
  have T0 := T0.grown g1 T0.size (by simp [Value.ownBlock])
  refine ⟨fun _ => T0, ?_⟩
  simp only [Act.put, Z1, Z2, Z3]
  refine Held.oneB 10 (by kernel_rfl) ?_
  refine op_build_lst1 (k := kO) 10 (some 19) 27 26 1 _ 24 [⟨A1, m1, c1, l⟩] rfl rfl rfl rfl Try.underlying27 info_kO rfl rfl (by simp [Act.eval, kO, Sl.flat]) (by intro v hv; simp [kO, Sl.flat] at hv; rw [hv]; rfl) (by omega) (by omega) ?_
  intro gl w2 ql b2 hgl
  have o1 := OwnL.below o1 b2
  have T0 := T0.trans (b2.mono T0.size)
  refine ⟨fun _ => T0, ?_⟩
  simp only [Act.put, Z1, Z2, Z3]
  refine Held.oneB 11 (by kernel_rfl) ?_
  have HO2 := OwnL.below HOO.out T0
  have hbr2 := hb.below T0 hrl
  refine op_append_lst0 (k := kO) 11 (some 20) 27 26 rfl rfl rfl rfl Try.underlying27 _ 24 info_kO rfl 0 w2.heap.size 1 1 (some ⟨gl, 0, none⟩) (.slice A' n' c') O [⟨A1, m1, c1, l⟩] rfl rfl HO2 (lst_whole ql rfl (fun _ _ => trivial)) (by have := HON.out; omega) (by omega) (Nat.zero_le _) ?_
  intro v3 w3 o3 g3 n3
  have hbr3 := hbr2.grown g3 (fun e => OwnL.ne_blk HO2 hbr2 (by decide) e.symm)
  have o1 : OwnL kC 77 w3 w.heap.size (.slice A1 m1 c1) l := OwnL.kept o1 g3 (own_apart' o1 HO2 (by decide))
  obtain ⟨A3, m3, c3, rfl, hm3, -⟩ := OwnL.form2 o3
  have K3 : KeepsP (fun b => ow b ≠ 2 ∧ b < w.heap.size) w w3 := (KeepsP.of_below T0).trans (KeepsP.of_grown g3 (fun b e hb => hb.1 (HLB.out b e)))
  have hl3 : ∀ b, (Value.slice A3 m3 c3).ownBlock = some b → ow b = 2 ∨ w.heap.size ≤ b := fun b e => n3.elim (fun h => .inl (HLB.out b (h ▸ e))) (fun h => by rw [h] at e; injection e with e; rw [← e]; exact .inr T0.size)
  refine ⟨fun h => (by cases h.symm.trans (show _ = true by kernel_rfl)), ?_⟩
  simp only [Act.put, Z1, Z2, Z3]
  refine Sto.oneB_v 12 (some 21) (v := .pointer (some ⟨r, 0, none⟩)) (by kernel_rfl) rfl rfl rfl (Sl.y_nil rfl rfl) (by kernel_rfl) ?_
  simp only [Act.put, Z1, Z2, Z3]
  refine Sto.oneB_v 13 (some 22) (v := .pointer (some ⟨r, 1, none⟩)) (by kernel_rfl) rfl rfl rfl (Held.y_field (k := 1) (s := 0) rfl rfl Try.underlying29 rfl (by kernel_rfl) rfl) (by kernel_rfl) ?_
  simp only [Act.put, Z1, Z2, Z3]
  refine Held.oneB 14 (by kernel_rfl) ?_
  refine op_store_cell 14 none 27 r 1 29 _ (.slice A3 m3 c3) rfl rfl rfl rfl rfl rfl hbr3 (by simp) (by kernel_rfl) rfl rfl ?_
  intro w4 q4 g4
  refine ⟨fun h => (by cases h.symm.trans (show _ = true by kernel_rfl)), ?_⟩
  simp only [Act.put]
  refine Held.doneB (by kernel_rfl) ?_ _
  have q4 : Blk w4 r 29 #[.slice A n c, .slice A3 m3 c3] := q4
  have K4 : KeepsP (fun b => ow b ≠ 2 ∧ b < w.heap.size) w w4 := K3.trans (KeepsP.of_grown g4 (fun b e hb => by injection e with e; rw [← e] at hb; exact hb.1 H.own))
  have o1 : OwnL kC 77 w4 w.heap.size (.slice A1 m1 c1) l := OwnL.kept o1 g4 (.inr fun e => OwnL.ne_blk o1 hbr3 (by decide) e)
  have o4 : OwnL kO 26 w4 0 (.slice A3 m3 c3) (O ++ [⟨A1, m1, c1, l⟩]) := OwnL.kept o3 g4 (.inr fun e => OwnL.ne_blk o3 hbr3 (by decide) e)
  obtain ⟨ow1, H1, C1⟩ := HOLD.out w4 A1 m1 c1 A3 m3 c3 K4 q4 o1 o4 hl3
  obtain ⟨O2, hO2⟩ : ∃ O2, O ++ [(⟨A1, m1, c1, l⟩ : Ol)] = O2 := ⟨_, rfl⟩
  have HAO := Lib.hid (show absO O2 = absO O ++ [absC l] by rw [← hO2]; unfold absO; rw [List.map_append]; rfl)
  rw [hO2] at H1
  have HIN1 := HIN0.out w4 K4
  have hsz4 := K4.size
  clear HLST HLEN HOO HLB HOLD HIN0 q4 K4 o1 o4 hO2 o3 g4 hbr3 hl3 K3 g3 n3 hbr2 HO2 ql b2 hgl T0 g1 n1 hm1 hm3 hb hrl
  go_wp2_with fail
  refine (at_any (x := x) H1 (by omega)).mono ?_
  rintro e5 w5 ⟨m, b, rfl, hml, hat, hbb, b5⟩
  have H5 := H1.below b5
  have C5 : Chg ow ow1 w w5 := C1.trans (Chg.below b5 ow1)
  have HIN5 := Lib.hid (fun (V : World) (hV : Below w5.heap.size w5 V) => HIN1.keep (KeepsP.of_below (b5.trans (hV.mono b5.size))))
  have HIN9 := Lib.hid (fun (V : World) (hV : KeepsP (fun b => b ≠ r ∧ b < w5.heap.size) w5 V) => (HIN1.keep (KeepsP.of_below b5)).keep (hV.less fun b hb => ⟨fun e => hb.1 (by rw [e]; exact H.own), Nat.lt_of_lt_of_le hb.2 (Nat.le_trans hsz4 b5.size)⟩))
  clear H1 C1 b5 HIN1
  rcases hbb with ⟨rfl, d, hd, hk⟩ | ⟨rfl, hno⟩
  · obtain ⟨ow2, how2⟩ : ∃ ow2, ow2 = ow1 := ⟨_, rfl⟩
    have H2 : Ref ow2 w5 r (N + 2) l O2 := by rw [how2]; exact H5.more (by omega)
    have HIN := HIN5
    have HFE2 := Lib.hid (show d.a.ys.length + 1 ≤ N + 2 by have := (CrOk.of H5 hd).few; omega)
    have HOUT := Lib.hid (fun (V : World) (ow8 : Nat → Nat) (a8 : Bl) (ya : Bs) (hz : ya.zs = y.zs) (ha : a8.ys = d.a.ys ++ [ya]) (H8 : Ref ow8 V r (N + 2) (l.set m ⟨d.k, true, ya, a8⟩) O2) (C8 : Chg ow2 ow8 w5 V) => show PutPost ow w r N l O x y.zs (.returned (.tuple #[])) V from ⟨rfl, ow8, _, O2, H8, C5.trans (how2 ▸ C8), HAO.out, .inl ⟨m, d, hd, hk, by rw [absC_set]; show (absC l).set m ⟨d.k, true, ya.zs, a8.ys.map (·.zs)⟩ = _; rw [hz, ha, hk, List.map_append, ← hz]; rfl⟩⟩)
    clear how2 H5 C5 HAO hk hat hml HIN5
    obtain ⟨A2, n2, c2, A2', n2', c2', hb2, HF2, -, -⟩ := H2.blk
    have hc2 := hb2.cell (i := 0) rfl
    obtain ⟨g, rfl, -, hmn, hgl, hrg, -, -, -, -⟩ := own_at HF2.own hd
    have hrg : w5.rangeAt g (0 + m * 4) [encStr d.k, .bool d.sh, .slice d.x.A d.x.n d.x.c, .slice d.a.A d.a.n d.a.c] := hrg
    have HDA := Lib.hid (CrOk.of H2 hd)
    have HSET := Lib.hid (fun (V : World) (hV : Below w5.heap.size w5 V) (e : Cr) (he : CrOk (fun b => ow2 b = 1 ∨ w5.heap.size ≤ b) V (N + 2) e) => set_new (w1 := V) H2 hV (List.getElem?_eq_some_iff.1 hd).1 (e := e) he (by omega))
    have HFE := Lib.hid (show d.a.ys.length + 2 ≤ 1048576 by have := (CrOk.of H2 hd).few; omega)
    have HDN := Lib.hid (show d.a.n = d.a.ys.length by obtain ⟨A9, c9, e9, _⟩ := OwnL.form (CrOk.of H2 hd).a; injection e9)
    have HYV := Lib.hid (fun (V : World) (hV : Below w5.heap.size w5 V) => cpy_any (HIN.out V hV))
    clear HF2 hb2 hd
    go_wp2_with (first
      | (refine Held.wpList_run (w := w5) rfl (v := .pointer (some ⟨g, 0 + m * 4, none⟩)) (Held.y_addr (S := fun _ => True) rfl rfl rfl (Rs.run_addr_of (P := Try.prog) 26 77 g 0 n2 c2 m 4 .i64 Try.underlying26 (by kernel_rfl) hmn) _ trivial) ?_)
      | (refine Held.wpList_run (w := w5) rfl (v := .agg #[encStr d.k, .bool d.sh, .slice d.x.A d.x.n d.x.c, .slice d.a.A d.a.n d.a.c]) (Rs.y_load_range (S := fun W => W = w5) (cs := [encStr d.k, .bool d.sh, .slice d.x.A d.x.n d.x.c, .slice d.a.A d.a.n d.a.c]) rfl rfl Try.underlying77 rfl (by kernel_rfl) rfl (fun W hW => hW ▸ hrg) _ rfl) ?_)
      | (refine wpList_alloc_blk (w := w5) rfl 77 rfl #[encStr [], .bool false, .slice none 0 0, .slice none 0 0] (by kernel_rfl) ?_; intro u2 qu2 gu2 zu2; have bou2 : Below w5.heap.size w5 u2 := (Below.refl _ _).grown gu2 (Nat.le_refl _) (by simp))
      | (refine wpList_store_blk (w := u2) rfl 77 _ _ rfl w5.heap.size 4 rfl 77 _ #[encStr d.k, .bool d.sh, .slice d.x.A d.x.n d.x.c, .slice d.a.A d.a.n d.a.c] rfl qu2 (by kernel_rfl) rfl rfl (by kernel_rfl) ?_; intro u3 qu3 gu3 zu3; have bou3 : Below w5.heap.size w5 u3 := bou2.grown gu3 bou2.size (fun b e => by injection e with e; rw [← e]; exact Nat.le_refl _)))
    refine (HYV.out u3 bou3).mono ?_
    rintro e4 u4 ⟨ya, rfl, hyz, -, hyr, b4⟩
    have hl3 := qu3.lt
    have bou4 : Below w5.heap.size w5 u4 := bou3.trans (b4.mono bou3.size)
    have qu4 : Blk u4 w5.heap.size 77 #[encStr d.k, .bool d.sh, .slice d.x.A d.x.n d.x.c, .slice d.a.A d.a.n d.a.c] := qu3.below b4 hl3
    have HYA := Lib.hid (And.intro hyz (fun (V : World) (hV : KeepsP (fun b => w5.heap.size < b) u4 V) => (hyr.less (S' := fun b => w5.heap.size < b) (fun b hb _ => Nat.lt_of_lt_of_le hl3 hb)).keep hV |>.less (S' := fun b => ow2 b = 1 ∨ w5.heap.size ≤ b) fun b hb _ => .inr (Nat.le_of_lt hb)))
    clear hyz hyr b4 qu3 gu3 zu3 qu2 gu2 zu2
    go_wp2_with (first
      | (refine wpList_store_field (w := u4) rfl 4 _ _ rfl w5.heap.size 1 rfl 77 _ (.bool true) rfl qu4 (by simp) (by kernel_rfl) rfl rfl ?_; intro u5 qu5 gu5 zu5; have bou5 : Below w5.heap.size w5 u5 := bou4.grown gu5 bou4.size (fun b e => by injection e with e; rw [← e]; exact Nat.le_refl _))
      | (refine wpList_store_field (w := u5) rfl 31 _ _ rfl w5.heap.size 2 rfl 77 _ (.slice ya.A ya.n ya.c) rfl qu5 (by simp) (by kernel_rfl) rfl rfl ?_; intro u6 qu6 gu6 zu6; have bou6 : Below w5.heap.size w5 u6 := bou5.grown gu6 bou5.size (fun b e => by injection e with e; rw [← e]; exact Nat.le_refl _)))
    have qu6 : Blk u6 w5.heap.size 77 #[encStr d.k, .bool true, .slice ya.A ya.n ya.c, .slice d.a.A d.a.n d.a.c] := qu6
    have hl6 := qu6.lt
    refine wp_region_bar (T := fun W => Below u6.heap.size u6 W) (s := 8) (by kernel_rfl) ?_
    change wpAnyB _ _ _ _ _ _ _ _ _ u6.drew
    have T0 : Below u6.heap.size u6 u6.drew := (Below.refl _ _).drew
    refine Held.takeB (v := .pointer (some ⟨w5.heap.size, 3, none⟩)) 0 (some 63) [8] rfl rfl (by kernel_rfl) (by kernel_rfl) (by kernel_rfl) (by kernel_rfl) (fun _ _ _ h => h) rfl (Held.y_field (k := 3) (s := 0) rfl rfl Try.underlying77 rfl (by kernel_rfl) rfl) T0 ?_
    simp only [Act.put, Z1, Z2, Z3]
    refine Held.takeB (v := .slice d.a.A d.a.n d.a.c) 1 (some 64) [8] rfl rfl (by kernel_rfl) (by kernel_rfl) (by kernel_rfl) (by kernel_rfl) (fun _ _ _ h => h) rfl (Held.y_load rfl rfl (by kernel_rfl) (fun W hW => (qu6.below hW hl6).cell rfl)) T0 ?_
    simp only [Act.put, Z1, Z2, Z3]
    refine Held.takeB (v := .pointer (some ⟨w5.heap.size, 2, none⟩)) 3 (some 66) [8] rfl rfl (by kernel_rfl) (by kernel_rfl) (by kernel_rfl) (by kernel_rfl) (fun _ _ _ h => h) rfl (Held.y_field (k := 2) (s := 0) rfl rfl Try.underlying77 rfl (by kernel_rfl) rfl) T0 ?_
    simp only [Act.put, Z1, Z2, Z3]
    refine Held.takeB (v := .slice ya.A ya.n ya.c) 4 (some 67) [8] rfl rfl (by kernel_rfl) (by kernel_rfl) (by kernel_rfl) (by kernel_rfl) (fun _ _ _ h => h) rfl (Held.y_load rfl rfl (by kernel_rfl) (fun W hW => (qu6.below hW hl6).cell rfl)) T0 ?_
    simp only [Act.put, Z1, Z2, Z3]
    refine Held.twoB 2 5 (by kernel_rfl) ?_ ?_
    · refine op_append_lst0 (k := kB) 2 (some 65) 68 31 rfl rfl rfl rfl Try.underlying68 _ 24 info_kB rfl u6.heap.size u6.heap.size d.a.n d.a.c d.a.A (.slice none 0 0) [] d.a.ys rfl rfl (OwnL.nil _ _ _ _) (Lst.below (OwnL.lst (OwnL.below HDA.out.a bou6) (fun _ _ => trivial)) T0) (by have := HFE.out; have := HDN.out; simp; omega) (by omega) T0.size ?_
      intro v5 xw5 o5 g5 n5
      have o5 : OwnL kB 31 xw5 u6.heap.size v5 d.a.ys := o5
      obtain ⟨A5, m5, c5, rfl, hm5, -⟩ := OwnL.form2 o5
      have T0 := T0.grown g5 T0.size (by simp [Value.ownBlock])
      refine ⟨fun _ => T0, ?_⟩
      simp only [Act.put, Z1, Z2, Z3]
      refine Held.oneB 5 (by kernel_rfl) ?_
      refine op_build_lst1 (k := kB) 5 (some 68) 68 31 1 _ 24 [ya] rfl rfl rfl rfl Try.underlying68 info_kB rfl rfl (by simp [Act.eval, kB, Sl.flat]) (by intro v hv; simp [kB, Sl.flat] at hv; rw [hv]; rfl) (by omega) (by omega) ?_
      intro gl wl ql bl hgl
      have o5 := OwnL.below o5 bl
      have T0 := T0.trans (bl.mono T0.size)
      refine ⟨fun _ => T0, ?_⟩
      simp only [Act.put, Z1, Z2, Z3]
      refine Held.oneB 6 (by kernel_rfl) ?_
      obtain ⟨wz, hwz⟩ : ∃ wz, wz = wl := ⟨_, rfl⟩
      rw [← hwz] at o5 ql T0 ⊢
      clear hwz
      refine op_append_lst0 (k := kB) 6 (some 69) 68 31 rfl rfl rfl rfl Try.underlying68 _ 24 info_kB rfl u6.heap.size wz.heap.size 1 1 (some ⟨gl, 0, none⟩) (.slice A5 m5 c5) d.a.ys [ya] rfl rfl o5 (lst_whole ql rfl (fun _ _ => trivial)) (by have := HFE.out; omega) (by omega) T0.size ?_
      intro v6 xw6 o6 g6 n6
      obtain ⟨A6, m6, c6, rfl, hm6, -⟩ := OwnL.form2 o6
      have T0 : Below u6.heap.size u6 xw6 := T0.grown g6 T0.size (fun b e => (OwnL.lt o5 b e).1)
      refine ⟨fun _ => T0, ?_⟩
      simp only [Act.put, Z1, Z2, Z3]
      refine Held.takeB (v := .pointer (some ⟨w5.heap.size, 3, none⟩)) 7 (some 70) [8] rfl rfl (by kernel_rfl) (by kernel_rfl) (by kernel_rfl) (by kernel_rfl) (fun _ _ _ h => h) rfl (Held.y_field (k := 3) (s := 0) rfl rfl Try.underlying77 rfl (by kernel_rfl) rfl) T0 ?_
      simp only [Act.put, Z1, Z2, Z3]
      refine Held.oneB 8 (by kernel_rfl) ?_
      refine op_store_cell 8 none 68 w5.heap.size 3 77 _ (.slice A6 m6 c6) rfl rfl rfl rfl rfl rfl (qu6.below T0 hl6) (by simp) (by kernel_rfl) rfl rfl ?_
      intro xw7 q7 g7
      refine ⟨fun h => (by cases h.symm.trans (show _ = true by kernel_rfl)), ?_⟩
      simp only [Act.put]
      refine Held.doneB (by kernel_rfl) ?_ _
      have q7 : Blk xw7 w5.heap.size 77 #[encStr d.k, .bool true, .slice ya.A ya.n ya.c, .slice A6 m6 c6] := q7
      have o7 : OwnL kB 31 xw7 u6.heap.size (.slice A6 m6 c6) (d.a.ys ++ [ya]) := OwnL.kept o6 g7 (.inr fun e => OwnL.ne_blk o6 (qu6.below T0 hl6) (by decide) e)
      have b7 : Below w5.heap.size w5 xw7 := (bou6.trans (T0.mono bou6.size)).grown g7 (Nat.le_trans bou6.size T0.size) (fun b e => by injection e with e; rw [← e]; exact Nat.le_refl _)
      have h26 := bou6.size
      have he7 : CrOk (fun b => ow2 b = 1 ∨ w5.heap.size ≤ b) xw7 (N + 2) ⟨d.k, true, ya, ⟨A6, m6, c6, d.a.ys ++ [ya]⟩⟩ := by
        have hya : Rd (fun b => ow2 b = 1 ∨ w5.heap.size ≤ b) xw7 ya := HYA.out.2 xw7 (((KeepsP.of_grown gu5 (fun b e hb => by injection e with e; rw [← e] at hb; exact Nat.lt_irrefl _ hb)).trans ((KeepsP.of_grown gu6 (fun b e hb => by injection e with e; rw [← e] at hb; exact Nat.lt_irrefl _ hb)).trans ((KeepsP.of_below T0).trans (KeepsP.of_grown g7 (fun b e hb => by injection e with e; rw [← e] at hb; exact Nat.lt_irrefl _ hb))))))
        exact ⟨hya, OwnL.less o7 (Nat.zero_le _), fun b e => .inr (Nat.le_trans h26 (OwnL.lt o7 b e).1), fun z hz => by
          rcases List.mem_append.1 hz with hz | hz
          · exact ((HDA.out.ys z hz).keep (KeepsP.of_below b7)).less fun b hb _ => .inl hb
          · rw [List.mem_singleton.1 hz]; exact hya, by have := HFE2.out; simp; omega⟩
      have HS7 := HSET.out xw7 b7 _ he7
      clear he7 o7 o6 o5
      go_wp2_with (first
        | (refine wpList_load_blk (w := xw7) rfl 77 _ rfl w5.heap.size 4 rfl 77 #[encStr d.k, .bool true, .slice ya.A ya.n ya.c, .slice A6 m6 c6] q7 _ Try.underlying77 rfl (by kernel_rfl) rfl ?_))
      refine HS7.mono ?_
      rintro e8 xw8 ⟨rfl, ow8, H8, C8⟩
      have HP := Lib.hid (HOUT.out xw8 ow8 ⟨A6, m6, c6, d.a.ys ++ [ya]⟩ ya HYA.out.1 rfl H8 C8)
      clear H8 C8 HS7
      go_wp2_with fail
      go_end0
      exact HP.out
    · refine op_build_lst1 (k := kB) 5 (some 68) 68 31 1 _ 24 [ya] rfl rfl rfl rfl Try.underlying68 info_kB rfl rfl (by simp [Act.eval, kB, Sl.flat]) (by intro v hv; simp [kB, Sl.flat] at hv; rw [hv]; rfl) (by omega) (by omega) ?_
      intro gl wl ql bl hgl
      have T0 := T0.trans (bl.mono T0.size)
      refine ⟨fun _ => T0, ?_⟩
      simp only [Act.put, Z1, Z2, Z3]
      refine Held.oneB 2 (by kernel_rfl) ?_
      refine op_append_lst0 (k := kB) 2 (some 65) 68 31 rfl rfl rfl rfl Try.underlying68 _ 24 info_kB rfl u6.heap.size u6.heap.size d.a.n d.a.c d.a.A (.slice none 0 0) [] d.a.ys rfl rfl (OwnL.nil _ _ _ _) (Lst.below (OwnL.lst (OwnL.below HDA.out.a bou6) (fun _ _ => trivial)) T0) (by have := HFE.out; have := HDN.out; simp; omega) (by omega) T0.size ?_
      intro v5 xw5 o5 g5 n5
      have o5 : OwnL kB 31 xw5 u6.heap.size v5 d.a.ys := o5
      obtain ⟨A5, m5, c5, rfl, hm5, -⟩ := OwnL.form2 o5
      have ql := ql.grown g5 (by simp [Value.ownBlock])
      have T0 := T0.grown g5 T0.size (by simp [Value.ownBlock])
      refine ⟨fun _ => T0, ?_⟩
      simp only [Act.put, Z1, Z2, Z3]
      refine Held.oneB 6 (by kernel_rfl) ?_
      obtain ⟨wz, hwz⟩ : ∃ wz, wz = xw5 := ⟨_, rfl⟩
      rw [← hwz] at o5 ql T0 ⊢
      clear hwz
      refine op_append_lst0 (k := kB) 6 (some 69) 68 31 rfl rfl rfl rfl Try.underlying68 _ 24 info_kB rfl u6.heap.size wz.heap.size 1 1 (some ⟨gl, 0, none⟩) (.slice A5 m5 c5) d.a.ys [ya] rfl rfl o5 (lst_whole ql rfl (fun _ _ => trivial)) (by have := HFE.out; omega) (by omega) T0.size ?_
      intro v6 xw6 o6 g6 n6
      obtain ⟨A6, m6, c6, rfl, hm6, -⟩ := OwnL.form2 o6
      have T0 : Below u6.heap.size u6 xw6 := T0.grown g6 T0.size (fun b e => (OwnL.lt o5 b e).1)
      refine ⟨fun _ => T0, ?_⟩
      simp only [Act.put, Z1, Z2, Z3]
      refine Held.takeB (v := .pointer (some ⟨w5.heap.size, 3, none⟩)) 7 (some 70) [8] rfl rfl (by kernel_rfl) (by kernel_rfl) (by kernel_rfl) (by kernel_rfl) (fun _ _ _ h => h) rfl (Held.y_field (k := 3) (s := 0) rfl rfl Try.underlying77 rfl (by kernel_rfl) rfl) T0 ?_
      simp only [Act.put, Z1, Z2, Z3]
      refine Held.oneB 8 (by kernel_rfl) ?_
      refine op_store_cell 8 none 68 w5.heap.size 3 77 _ (.slice A6 m6 c6) rfl rfl rfl rfl rfl rfl (qu6.below T0 hl6) (by simp) (by kernel_rfl) rfl rfl ?_
      intro xw7 q7 g7
      refine ⟨fun h => (by cases h.symm.trans (show _ = true by kernel_rfl)), ?_⟩
      simp only [Act.put]
      refine Held.doneB (by kernel_rfl) ?_ _
      have q7 : Blk xw7 w5.heap.size 77 #[encStr d.k, .bool true, .slice ya.A ya.n ya.c, .slice A6 m6 c6] := q7
      have o7 : OwnL kB 31 xw7 u6.heap.size (.slice A6 m6 c6) (d.a.ys ++ [ya]) := OwnL.kept o6 g7 (.inr fun e => OwnL.ne_blk o6 (qu6.below T0 hl6) (by decide) e)
      have b7 : Below w5.heap.size w5 xw7 := (bou6.trans (T0.mono bou6.size)).grown g7 (Nat.le_trans bou6.size T0.size) (fun b e => by injection e with e; rw [← e]; exact Nat.le_refl _)
      have h26 := bou6.size
      have he7 : CrOk (fun b => ow2 b = 1 ∨ w5.heap.size ≤ b) xw7 (N + 2) ⟨d.k, true, ya, ⟨A6, m6, c6, d.a.ys ++ [ya]⟩⟩ := by
        have hya : Rd (fun b => ow2 b = 1 ∨ w5.heap.size ≤ b) xw7 ya := HYA.out.2 xw7 (((KeepsP.of_grown gu5 (fun b e hb => by injection e with e; rw [← e] at hb; exact Nat.lt_irrefl _ hb)).trans ((KeepsP.of_grown gu6 (fun b e hb => by injection e with e; rw [← e] at hb; exact Nat.lt_irrefl _ hb)).trans ((KeepsP.of_below T0).trans (KeepsP.of_grown g7 (fun b e hb => by injection e with e; rw [← e] at hb; exact Nat.lt_irrefl _ hb))))))
        exact ⟨hya, OwnL.less o7 (Nat.zero_le _), fun b e => .inr (Nat.le_trans h26 (OwnL.lt o7 b e).1), fun z hz => by
          rcases List.mem_append.1 hz with hz | hz
          · exact ((HDA.out.ys z hz).keep (KeepsP.of_below b7)).less fun b hb _ => .inl hb
          · rw [List.mem_singleton.1 hz]; exact hya, by have := HFE2.out; simp; omega⟩
      have HS7 := HSET.out xw7 b7 _ he7
      clear he7 o7 o6 o5
      go_wp2_with (first
        | (refine wpList_load_blk (w := xw7) rfl 77 _ rfl w5.heap.size 4 rfl 77 #[encStr d.k, .bool true, .slice ya.A ya.n ya.c, .slice A6 m6 c6] q7 _ Try.underlying77 rfl (by kernel_rfl) rfl ?_))
      refine HS7.mono ?_
      rintro e8 xw8 ⟨rfl, ow8, H8, C8⟩
      have HP := Lib.hid (HOUT.out xw8 ow8 ⟨A6, m6, c6, d.a.ys ++ [ya]⟩ ya HYA.out.1 rfl H8 C8)
      clear H8 C8 HS7
      go_wp2_with fail
      go_end0
      exact HP.out
  · have H5' := H5
    obtain ⟨A5, n5, c5, A5', n5', c5', hb5, HF5, -, -⟩ := H5.blk
    have hrl5 := hb5.lt
    have hml' : m ≤ n5 := by rw [HF5.len]; exact hml
    obtain ⟨Af, Ab, cb, hfr, hbk, HL1, HL2⟩ := own_partsC HF5.own (fun _ _ => trivial) hml'
    have HLF := Lib.hid HF5.len
    have HLE := Lib.hid (show l.length ≤ 500000 by have := HF5.few; omega)
    have HREL := Lib.hid (fun (w' : World) (A1 : Option Addr) (n1 c1 : Nat) (l' : List Cr) => H5.relist (w' := w') (A := A1) (n := n1) (c := c1) (l' := l') (N' := N + 2) hb5)
    have HFR := Lib.hid HF5
    have HLL1 := Lib.hid HL1
    have HLL2 := Lib.hid HL2
    have HOW := Lib.hid H5.own
    clear HF5 HL1 HL2 H5
    go_wp2_with fail
    refine wp_region_bar (T := fun W => Below w5.heap.size w5 W) (s := 18) (by kernel_rfl) ?_
    change wpAnyB _ _ _ _ _ _ _ _ _ w5.drew
    have T0 : Below w5.heap.size w5 w5.drew := (Below.refl _ _).drew
    refine Held.takeA (v := .pointer (some ⟨r, 0, none⟩)) 0 (some 31) rfl rfl (by kernel_rfl) (by kernel_rfl) (by kernel_rfl) (by decide) (fun _ _ _ h => h) rfl (Held.y_move rfl rfl) (fun _ => T0) ?_
    simp only [Act.put, Z1, Z2, Z3]
    refine Held.takeB (v := .pointer (some ⟨r, 0, none⟩)) 1 (some 32) [2, 3, 4, 6, 7, 11, 18] rfl rfl (by kernel_rfl) (by kernel_rfl) (by kernel_rfl) (by kernel_rfl) (fun _ _ _ h => h) rfl (Held.y_move rfl rfl) T0 ?_
    simp only [Act.put, Z1, Z2, Z3]
    refine Held.takeB (v := .pointer (some ⟨r, 0, none⟩)) 2 (some 33) [3, 4, 6, 7, 11, 18] rfl rfl (by kernel_rfl) (by kernel_rfl) (by kernel_rfl) (by kernel_rfl) (fun _ _ _ h => h) rfl (Sl.y_nil rfl rfl) T0 ?_
    simp only [Act.put, Z1, Z2, Z3]
    refine Held.takeB (v := .pointer (some ⟨r, 0, none⟩)) 3 (some 34) [4, 6, 7, 11, 18] rfl rfl (by kernel_rfl) (by kernel_rfl) (by kernel_rfl) (by kernel_rfl) (fun _ _ _ h => h) rfl (Held.y_field (k := 0) (s := 0) rfl rfl Try.underlying29 rfl (by kernel_rfl) rfl) T0 ?_
    simp only [Act.put, Z1, Z2, Z3]
    refine Held.takeB (v := .slice A5 n5 c5) 4 (some 35) [6, 7, 11, 18] rfl rfl (by kernel_rfl) (by kernel_rfl) (by kernel_rfl) (by kernel_rfl) (fun _ _ _ h => h) rfl (Held.y_load rfl rfl (by kernel_rfl) (fun W hW => (hb5.below hW hrl5).cell rfl)) T0 ?_
    simp only [Act.put, Z1, Z2, Z3]
    refine Held.takeB (v := .int .i64 (m : Int)) 5 (some 36) [6, 7, 11, 18] rfl rfl (by kernel_rfl) (by kernel_rfl) (by kernel_rfl) (by kernel_rfl) (fun _ _ _ h => h) rfl (Held.y_move rfl rfl) T0 ?_
    simp only [Act.put, Z1, Z2, Z3]
    refine Held.takeB (v := .slice Af m c5) 6 (some 37) [7, 11, 18] rfl rfl (by kernel_rfl) (by kernel_rfl) (by kernel_rfl) (by kernel_rfl) (fun _ _ _ h => h) rfl (Held.y_slice rfl (fun W => hfr W)) T0 ?_
    simp only [Act.put, Z1, Z2, Z3]
    refine Held.takeB (v := encStr x) 8 (some 39) [9, 10, 11, 18] rfl rfl (by kernel_rfl) (by kernel_rfl) (by kernel_rfl) (by kernel_rfl) (fun _ _ _ h => h) rfl (Held.y_move rfl rfl) T0 ?_
    simp only [Act.put, Z1, Z2, Z3]
    refine Held.takeB (v := .agg #[encStr x, .bool false, .slice none 0 0, .slice none 0 0]) 9 (some 40) [10, 11, 18] rfl rfl (by kernel_rfl) (by kernel_rfl) (by kernel_rfl) (by kernel_rfl) (fun _ _ _ h => h) rfl (Held.y_build rfl (by kernel_rfl)) T0 ?_
    simp only [Act.put, Z1, Z2, Z3]
    refine Held.takeB (v := .pointer (some ⟨r, 0, none⟩)) 12 (some 43) [13, 14, 15, 17, 18] rfl rfl (by kernel_rfl) (by kernel_rfl) (by kernel_rfl) (by kernel_rfl) (fun _ _ _ h => h) rfl (Held.y_move rfl rfl) T0 ?_
    simp only [Act.put, Z1, Z2, Z3]
    refine Held.takeB (v := .pointer (some ⟨r, 0, none⟩)) 13 (some 44) [14, 15, 17, 18] rfl rfl (by kernel_rfl) (by kernel_rfl) (by kernel_rfl) (by kernel_rfl) (fun _ _ _ h => h) rfl (Sl.y_nil rfl rfl) T0 ?_
    simp only [Act.put, Z1, Z2, Z3]
    refine Held.takeB (v := .pointer (some ⟨r, 0, none⟩)) 14 (some 45) [15, 17, 18] rfl rfl (by kernel_rfl) (by kernel_rfl) (by kernel_rfl) (by kernel_rfl) (fun _ _ _ h => h) rfl (Held.y_field (k := 0) (s := 0) rfl rfl Try.underlying29 rfl (by kernel_rfl) rfl) T0 ?_
    simp only [Act.put, Z1, Z2, Z3]
    refine Held.takeB (v := .slice A5 n5 c5) 15 (some 46) [17, 18] rfl rfl (by kernel_rfl) (by kernel_rfl) (by kernel_rfl) (by kernel_rfl) (fun _ _ _ h => h) rfl (Held.y_load rfl rfl (by kernel_rfl) (fun W hW => (hb5.below hW hrl5).cell rfl)) T0 ?_
    simp only [Act.put, Z1, Z2, Z3]
    refine Held.takeB (v := .int .i64 (m : Int)) 16 (some 47) [17, 18] rfl rfl (by kernel_rfl) (by kernel_rfl) (by kernel_rfl) (by kernel_rfl) (fun _ _ _ h => h) rfl (Held.y_move rfl rfl) T0 ?_
    simp only [Act.put, Z1, Z2, Z3]
    refine Held.takeB (v := .slice Ab (n5 - m) cb) 17 (some 48) [18] rfl rfl (by kernel_rfl) (by kernel_rfl) (by kernel_rfl) (by kernel_rfl) (fun _ _ _ h => h) rfl (Held.y_slice rfl (fun W => hbk W)) T0 ?_
    simp only [Act.put, Z1, Z2, Z3]
    refine Held.twoB 7 10 (by kernel_rfl) ?_ ?_
    · refine op_append_lst0 (k := kC) 7 (some 38) 26 77 rfl rfl rfl rfl Try.underlying26 _ 72 info_kC rfl w5.heap.size w5.heap.size m c5 Af (.slice none 0 0) [] (l.take m) rfl rfl (OwnL.nil _ _ _ _) (Lst.below HLL1.out T0) (by have := HLE.out; have := HLF.out; simp; omega) (by omega) T0.size ?_
      intro v6 w6 o6 g6 n6
      have o6 : OwnL kC 77 w6 w5.heap.size v6 (l.take m) := o6
      obtain ⟨A6, m6, c6, rfl, hm6, -⟩ := OwnL.form2 o6
      have T0 := T0.grown g6 T0.size (by simp [Value.ownBlock])
      refine ⟨fun _ => T0, ?_⟩
      simp only [Act.put, Z1, Z2, Z3]
      refine Held.oneB 10 (by kernel_rfl) ?_
      refine op_build_lst (k := kC) 10 (some 41) 26 77 1 _ 72 [⟨x, false, Bs.nil, Bl.nil⟩] rfl rfl rfl rfl Try.underlying26 info_kC rfl rfl (by simp [Act.eval, kC, Cr.cells, Bs.nil, Bl.nil]) (by omega) (by decide) ?_
      intro gl wl ql bl hgl
      have o6 := OwnL.below o6 bl
      have T0 := T0.trans (bl.mono T0.size)
      refine ⟨fun _ => T0, ?_⟩
      simp only [Act.put, Z1, Z2, Z3]
      refine Held.oneB 11 (by kernel_rfl) ?_
      obtain ⟨wz, hwz⟩ : ∃ wz, wz = wl := ⟨_, rfl⟩
      rw [← hwz] at o6 ql T0 ⊢
      clear hwz
      refine op_append_lst0 (k := kC) 11 (some 42) 26 77 rfl rfl rfl rfl Try.underlying26 _ 72 info_kC rfl w5.heap.size wz.heap.size 1 1 (some ⟨gl, 0, none⟩) (.slice A6 m6 c6) (l.take m) [⟨x, false, Bs.nil, Bl.nil⟩] rfl rfl o6 (lst_whole ql rfl (fun _ _ => trivial)) (by have := HLE.out; have := HLF.out; simp; omega) (by omega) T0.size ?_
      intro v7 w7 o7 g7 n7
      obtain ⟨A7, m7, c7, rfl, hm7, -⟩ := OwnL.form2 o7
      have T0 : Below w5.heap.size w5 w7 := T0.grown g7 T0.size (fun b e => (OwnL.lt o6 b e).1)
      refine ⟨fun _ => T0, ?_⟩
      simp only [Act.put, Z1, Z2, Z3]
      refine Held.oneB 18 (by kernel_rfl) ?_
      refine op_append_lst0 (k := kC) 18 (some 49) 26 77 rfl rfl rfl rfl Try.underlying26 _ 72 info_kC rfl w5.heap.size w5.heap.size (n5 - m) cb Ab (.slice A7 m7 c7) (l.take m ++ [⟨x, false, Bs.nil, Bl.nil⟩]) (l.drop m) rfl rfl o7 (Lst.below HLL2.out T0) (by have := HLE.out; have := HLF.out; simp; omega) (by omega) T0.size ?_
      intro v8 w8 o8 g8 n8
      obtain ⟨A8, m8, c8, rfl, hm8, -⟩ := OwnL.form2 o8
      have T8 : Below w5.heap.size w5 w8 := T0.grown g8 T0.size (fun b e => (OwnL.lt o7 b e).1)
      refine ⟨fun h => (by cases h.symm.trans (show _ = true by kernel_rfl)), ?_⟩
      simp only [Act.put, Z1, Z2, Z3]
      refine Sto.oneB_v 19 (some 50) (v := .pointer (some ⟨r, 0, none⟩)) (by kernel_rfl) rfl rfl rfl (Sl.y_nil rfl rfl) (by kernel_rfl) ?_
      simp only [Act.put, Z1, Z2, Z3]
      refine Sto.oneB_v 20 (some 51) (v := .pointer (some ⟨r, 0, none⟩)) (by kernel_rfl) rfl rfl rfl (Held.y_field (k := 0) (s := 0) rfl rfl Try.underlying29 rfl (by kernel_rfl) rfl) (by kernel_rfl) ?_
      simp only [Act.put, Z1, Z2, Z3]
      refine Held.oneB 21 (by kernel_rfl) ?_
      refine op_store_cell 21 none 26 r 0 29 _ (.slice A8 m8 c8) rfl rfl rfl rfl rfl rfl (hb5.below T8 hrl5) (by simp) (by kernel_rfl) rfl rfl ?_
      intro w9 q9 g9
      refine ⟨fun h => (by cases h.symm.trans (show _ = true by kernel_rfl)), ?_⟩
      simp only [Act.put]
      refine Held.doneB (by kernel_rfl) ?_ _
      have q9 : Blk w9 r 29 #[.slice A8 m8 c8, .slice A5' n5' c5'] := q9
      have K9 : KeepsP (fun b => b ≠ r ∧ b < w5.heap.size) w5 w9 := (KeepsP.of_below T8).trans (KeepsP.of_grown g9 (fun b e hb => by injection e with e; exact hb.1 e.symm))
      have o9 : OwnL kC 77 w9 w5.heap.size (.slice A8 m8 c8) (l.take m ++ [⟨x, false, Bs.nil, Bl.nil⟩] ++ l.drop m) := OwnL.kept o8 g9 (.inr fun e => OwnL.ne_blk o8 (hb5.below T8 hrl5) (by decide) e)
      have k9 : KeepsP (fun b => ow1 b = 1) w5 w9 := ⟨K9.os, K9.tape, K9.output, K9.size, fun b o hb ho => K9.block b o ⟨fun e => by have h1 : ow1 b = 1 := hb; have h2 := HOW.out; rw [e] at h1; omega, (Array.getElem?_eq_some_iff.1 ho).1⟩ ho⟩
      obtain ⟨ow2, H2, C2⟩ := HREL.out w9 A8 m8 c8 _ K9 q9 ⟨OwnL.less o9 (Nat.zero_le _), fun b e => .inr (OwnL.lt o9 b e).1, fun e he => by
        have hcase : e ∈ l ∨ e = ⟨x, false, Bs.nil, Bl.nil⟩ := by
          rcases List.mem_append.1 he with he | he
          · rcases List.mem_append.1 he with he | he
            · exact .inl (List.mem_of_mem_take he)
            · exact .inr (List.mem_singleton.1 he)
          · exact .inl (List.mem_of_mem_drop he)
        rcases hcase with h | rfl
        · exact (((HFR.out.ok e h).keep k9).more (by omega)).less fun b hb _ => .inl hb
        · exact ⟨Rd.nil _ _, OwnL.nil _ _ _ _, (fun b e => by cases e), (fun y hy => by cases hy), Nat.zero_le _⟩, by have := HFR.out.few; simp; omega⟩ (by omega)
      obtain ⟨d, hde⟩ : ∃ d : Cr, d = ⟨x, false, Bs.nil, Bl.nil⟩ := ⟨_, rfl⟩
      obtain ⟨l2, hl2⟩ : ∃ l2, l.take m ++ [(⟨x, false, Bs.nil, Bl.nil⟩ : Cr)] ++ l.drop m = l2 := ⟨_, rfl⟩
      rw [hl2] at H2
      have hal : absC l2 = insC (absC l) m ⟨x, false, [], []⟩ := by rw [← hl2]; unfold absC insC; simp [List.map_take, List.map_drop, Cr.p, Bs.nil, Bl.nil]
      have hd : l2[m]? = some d := by
        rw [← hl2, hde, List.getElem?_append_left (by simp; omega), List.getElem?_append_right (by simp; omega)]
        simp [Nat.min_eq_left hml]
      have HFE2 := Lib.hid (show d.a.ys.length + 1 ≤ N + 2 by rw [hde]; simp [Bl.nil])
      have HIN := Lib.hid (fun (V : World) (hV : Below w9.heap.size w9 V) => HIN9.out V (K9.trans (KeepsP.of_below hV)))
      have HOUT := Lib.hid (fun (V : World) (ow8 : Nat → Nat) (a8 : Bl) (ya : Bs) (hz : ya.zs = y.zs) (ha : a8.ys = d.a.ys ++ [ya]) (H8 : Ref ow8 V r (N + 2) (l2.set m ⟨d.k, true, ya, a8⟩) O2) (C8 : Chg ow2 ow8 w9 V) => show PutPost ow w r N l O x y.zs (.returned (.tuple #[])) V from ⟨rfl, ow8, _, O2, H8, C5.trans (C2.trans C8), HAO.out, .inr ⟨m, hat, fun d hd => by obtain ⟨e, h1, rfl⟩ := absC_at' hd; exact hno e h1, by rw [absC_set, hal]; show (insC (absC l) m _).set m ⟨d.k, true, ya.zs, a8.ys.map (·.zs)⟩ = _; rw [hz, ha, hde]; show _ = _; simp [Bl.nil, hz]⟩⟩)
      clear hde hl2 hal o9 k9 K9 C2 hat hml q9 g9 o8 T8 g8 n8 o7 g7 n7 hm7 hm8 o6 hm6 ql T0
      obtain ⟨A2, n2, c2, A2', n2', c2', hb2, HF2, -, -⟩ := H2.blk
      have hc2 := hb2.cell (i := 0) rfl
      obtain ⟨g, rfl, -, hmn, hgl, hrg, -, -, -, -⟩ := own_at HF2.own hd
      have hrg : w9.rangeAt g (0 + m * 4) [encStr d.k, .bool d.sh, .slice d.x.A d.x.n d.x.c, .slice d.a.A d.a.n d.a.c] := hrg
      have HDA := Lib.hid (CrOk.of H2 hd)
      have HSET := Lib.hid (fun (V : World) (hV : Below w9.heap.size w9 V) (e : Cr) (he : CrOk (fun b => ow2 b = 1 ∨ w9.heap.size ≤ b) V (N + 2) e) => set_new (w1 := V) H2 hV (List.getElem?_eq_some_iff.1 hd).1 (e := e) he (by omega))
      have HFE := Lib.hid (show d.a.ys.length + 2 ≤ 1048576 by have := (CrOk.of H2 hd).few; omega)
      have HDN := Lib.hid (show d.a.n = d.a.ys.length by obtain ⟨A9, c9, e9, _⟩ := OwnL.form (CrOk.of H2 hd).a; injection e9)
      have HYV := Lib.hid (fun (V : World) (hV : Below w9.heap.size w9 V) => cpy_any (HIN.out V hV))
      clear HF2 hb2 hd
      go_wp2_with (first
        | (refine Held.wpList_run (w := w9) rfl (v := .pointer (some ⟨g, 0 + m * 4, none⟩)) (Held.y_addr (S := fun _ => True) rfl rfl rfl (Rs.run_addr_of (P := Try.prog) 26 77 g 0 n2 c2 m 4 .i64 Try.underlying26 (by kernel_rfl) hmn) _ trivial) ?_)
        | (refine Held.wpList_run (w := w9) rfl (v := .agg #[encStr d.k, .bool d.sh, .slice d.x.A d.x.n d.x.c, .slice d.a.A d.a.n d.a.c]) (Rs.y_load_range (S := fun W => W = w9) (cs := [encStr d.k, .bool d.sh, .slice d.x.A d.x.n d.x.c, .slice d.a.A d.a.n d.a.c]) rfl rfl Try.underlying77 rfl (by kernel_rfl) rfl (fun W hW => hW ▸ hrg) _ rfl) ?_)
        | (refine wpList_alloc_blk (w := w9) rfl 77 rfl #[encStr [], .bool false, .slice none 0 0, .slice none 0 0] (by kernel_rfl) ?_; intro u2 qu2 gu2 zu2; have bou2 : Below w9.heap.size w9 u2 := (Below.refl _ _).grown gu2 (Nat.le_refl _) (by simp))
        | (refine wpList_store_blk (w := u2) rfl 77 _ _ rfl w9.heap.size 4 rfl 77 _ #[encStr d.k, .bool d.sh, .slice d.x.A d.x.n d.x.c, .slice d.a.A d.a.n d.a.c] rfl qu2 (by kernel_rfl) rfl rfl (by kernel_rfl) ?_; intro u3 qu3 gu3 zu3; have bou3 : Below w9.heap.size w9 u3 := bou2.grown gu3 bou2.size (fun b e => by injection e with e; rw [← e]; exact Nat.le_refl _)))
      refine (HYV.out u3 bou3).mono ?_
      rintro e4 u4 ⟨ya, rfl, hyz, -, hyr, b4⟩
      have hl3 := qu3.lt
      have bou4 : Below w9.heap.size w9 u4 := bou3.trans (b4.mono bou3.size)
      have qu4 : Blk u4 w9.heap.size 77 #[encStr d.k, .bool d.sh, .slice d.x.A d.x.n d.x.c, .slice d.a.A d.a.n d.a.c] := qu3.below b4 hl3
      have HYA := Lib.hid (And.intro hyz (fun (V : World) (hV : KeepsP (fun b => w9.heap.size < b) u4 V) => (hyr.less (S' := fun b => w9.heap.size < b) (fun b hb _ => Nat.lt_of_lt_of_le hl3 hb)).keep hV |>.less (S' := fun b => ow2 b = 1 ∨ w9.heap.size ≤ b) fun b hb _ => .inr (Nat.le_of_lt hb)))
      clear hyz hyr b4 qu3 gu3 zu3 qu2 gu2 zu2
      go_wp2_with (first
        | (refine wpList_store_field (w := u4) rfl 4 _ _ rfl w9.heap.size 1 rfl 77 _ (.bool true) rfl qu4 (by simp) (by kernel_rfl) rfl rfl ?_; intro u5 qu5 gu5 zu5; have bou5 : Below w9.heap.size w9 u5 := bou4.grown gu5 bou4.size (fun b e => by injection e with e; rw [← e]; exact Nat.le_refl _))
        | (refine wpList_store_field (w := u5) rfl 31 _ _ rfl w9.heap.size 2 rfl 77 _ (.slice ya.A ya.n ya.c) rfl qu5 (by simp) (by kernel_rfl) rfl rfl ?_; intro u6 qu6 gu6 zu6; have bou6 : Below w9.heap.size w9 u6 := bou5.grown gu6 bou5.size (fun b e => by injection e with e; rw [← e]; exact Nat.le_refl _)))
      have qu6 : Blk u6 w9.heap.size 77 #[encStr d.k, .bool true, .slice ya.A ya.n ya.c, .slice d.a.A d.a.n d.a.c] := qu6
      have hl6 := qu6.lt
      refine wp_region_bar (T := fun W => Below u6.heap.size u6 W) (s := 8) (by kernel_rfl) ?_
      change wpAnyB _ _ _ _ _ _ _ _ _ u6.drew
      have T0 : Below u6.heap.size u6 u6.drew := (Below.refl _ _).drew
      refine Held.takeB (v := .pointer (some ⟨w9.heap.size, 3, none⟩)) 0 (some 63) [8] rfl rfl (by kernel_rfl) (by kernel_rfl) (by kernel_rfl) (by kernel_rfl) (fun _ _ _ h => h) rfl (Held.y_field (k := 3) (s := 0) rfl rfl Try.underlying77 rfl (by kernel_rfl) rfl) T0 ?_
      simp only [Act.put, Z1, Z2, Z3]
      refine Held.takeB (v := .slice d.a.A d.a.n d.a.c) 1 (some 64) [8] rfl rfl (by kernel_rfl) (by kernel_rfl) (by kernel_rfl) (by kernel_rfl) (fun _ _ _ h => h) rfl (Held.y_load rfl rfl (by kernel_rfl) (fun W hW => (qu6.below hW hl6).cell rfl)) T0 ?_
      simp only [Act.put, Z1, Z2, Z3]
      refine Held.takeB (v := .pointer (some ⟨w9.heap.size, 2, none⟩)) 3 (some 66) [8] rfl rfl (by kernel_rfl) (by kernel_rfl) (by kernel_rfl) (by kernel_rfl) (fun _ _ _ h => h) rfl (Held.y_field (k := 2) (s := 0) rfl rfl Try.underlying77 rfl (by kernel_rfl) rfl) T0 ?_
      simp only [Act.put, Z1, Z2, Z3]
      refine Held.takeB (v := .slice ya.A ya.n ya.c) 4 (some 67) [8] rfl rfl (by kernel_rfl) (by kernel_rfl) (by kernel_rfl) (by kernel_rfl) (fun _ _ _ h => h) rfl (Held.y_load rfl rfl (by kernel_rfl) (fun W hW => (qu6.below hW hl6).cell rfl)) T0 ?_
      simp only [Act.put, Z1, Z2, Z3]
      refine Held.twoB 2 5 (by kernel_rfl) ?_ ?_
      · refine op_append_lst0 (k := kB) 2 (some 65) 68 31 rfl rfl rfl rfl Try.underlying68 _ 24 info_kB rfl u6.heap.size u6.heap.size d.a.n d.a.c d.a.A (.slice none 0 0) [] d.a.ys rfl rfl (OwnL.nil _ _ _ _) (Lst.below (OwnL.lst (OwnL.below HDA.out.a bou6) (fun _ _ => trivial)) T0) (by have := HFE.out; have := HDN.out; simp; omega) (by omega) T0.size ?_
        intro v5 xw5 o5 g5 n5
        have o5 : OwnL kB 31 xw5 u6.heap.size v5 d.a.ys := o5
        obtain ⟨A5, m5, c5, rfl, hm5, -⟩ := OwnL.form2 o5
        have T0 := T0.grown g5 T0.size (by simp [Value.ownBlock])
        refine ⟨fun _ => T0, ?_⟩
        simp only [Act.put, Z1, Z2, Z3]
        refine Held.oneB 5 (by kernel_rfl) ?_
        refine op_build_lst1 (k := kB) 5 (some 68) 68 31 1 _ 24 [ya] rfl rfl rfl rfl Try.underlying68 info_kB rfl rfl (by simp [Act.eval, kB, Sl.flat]) (by intro v hv; simp [kB, Sl.flat] at hv; rw [hv]; rfl) (by omega) (by omega) ?_
        intro gl wl ql bl hgl
        have o5 := OwnL.below o5 bl
        have T0 := T0.trans (bl.mono T0.size)
        refine ⟨fun _ => T0, ?_⟩
        simp only [Act.put, Z1, Z2, Z3]
        refine Held.oneB 6 (by kernel_rfl) ?_
        obtain ⟨wz, hwz⟩ : ∃ wz, wz = wl := ⟨_, rfl⟩
        rw [← hwz] at o5 ql T0 ⊢
        clear hwz
        refine op_append_lst0 (k := kB) 6 (some 69) 68 31 rfl rfl rfl rfl Try.underlying68 _ 24 info_kB rfl u6.heap.size wz.heap.size 1 1 (some ⟨gl, 0, none⟩) (.slice A5 m5 c5) d.a.ys [ya] rfl rfl o5 (lst_whole ql rfl (fun _ _ => trivial)) (by have := HFE.out; omega) (by omega) T0.size ?_
        intro v6 xw6 o6 g6 n6
        obtain ⟨A6, m6, c6, rfl, hm6, -⟩ := OwnL.form2 o6
        have T0 : Below u6.heap.size u6 xw6 := T0.grown g6 T0.size (fun b e => (OwnL.lt o5 b e).1)
        refine ⟨fun _ => T0, ?_⟩
        simp only [Act.put, Z1, Z2, Z3]
        refine Held.takeB (v := .pointer (some ⟨w9.heap.size, 3, none⟩)) 7 (some 70) [8] rfl rfl (by kernel_rfl) (by kernel_rfl) (by kernel_rfl) (by kernel_rfl) (fun _ _ _ h => h) rfl (Held.y_field (k := 3) (s := 0) rfl rfl Try.underlying77 rfl (by kernel_rfl) rfl) T0 ?_
        simp only [Act.put, Z1, Z2, Z3]
        refine Held.oneB 8 (by kernel_rfl) ?_
        refine op_store_cell 8 none 68 w9.heap.size 3 77 _ (.slice A6 m6 c6) rfl rfl rfl rfl rfl rfl (qu6.below T0 hl6) (by simp) (by kernel_rfl) rfl rfl ?_
        intro xw7 q7 g7
        refine ⟨fun h => (by cases h.symm.trans (show _ = true by kernel_rfl)), ?_⟩
        simp only [Act.put]
        refine Held.doneB (by kernel_rfl) ?_ _
        have q7 : Blk xw7 w9.heap.size 77 #[encStr d.k, .bool true, .slice ya.A ya.n ya.c, .slice A6 m6 c6] := q7
        have o7 : OwnL kB 31 xw7 u6.heap.size (.slice A6 m6 c6) (d.a.ys ++ [ya]) := OwnL.kept o6 g7 (.inr fun e => OwnL.ne_blk o6 (qu6.below T0 hl6) (by decide) e)
        have b7 : Below w9.heap.size w9 xw7 := (bou6.trans (T0.mono bou6.size)).grown g7 (Nat.le_trans bou6.size T0.size) (fun b e => by injection e with e; rw [← e]; exact Nat.le_refl _)
        have h26 := bou6.size
        have he7 : CrOk (fun b => ow2 b = 1 ∨ w9.heap.size ≤ b) xw7 (N + 2) ⟨d.k, true, ya, ⟨A6, m6, c6, d.a.ys ++ [ya]⟩⟩ := by
          have hya : Rd (fun b => ow2 b = 1 ∨ w9.heap.size ≤ b) xw7 ya := HYA.out.2 xw7 (((KeepsP.of_grown gu5 (fun b e hb => by injection e with e; rw [← e] at hb; exact Nat.lt_irrefl _ hb)).trans ((KeepsP.of_grown gu6 (fun b e hb => by injection e with e; rw [← e] at hb; exact Nat.lt_irrefl _ hb)).trans ((KeepsP.of_below T0).trans (KeepsP.of_grown g7 (fun b e hb => by injection e with e; rw [← e] at hb; exact Nat.lt_irrefl _ hb))))))
          exact ⟨hya, OwnL.less o7 (Nat.zero_le _), fun b e => .inr (Nat.le_trans h26 (OwnL.lt o7 b e).1), fun z hz => by
            rcases List.mem_append.1 hz with hz | hz
            · exact ((HDA.out.ys z hz).keep (KeepsP.of_below b7)).less fun b hb _ => .inl hb
            · rw [List.mem_singleton.1 hz]; exact hya, by have := HFE2.out; simp; omega⟩
        have HS7 := HSET.out xw7 b7 _ he7
        clear he7 o7 o6 o5
        go_wp2_with (first
          | (refine wpList_load_blk (w := xw7) rfl 77 _ rfl w9.heap.size 4 rfl 77 #[encStr d.k, .bool true, .slice ya.A ya.n ya.c, .slice A6 m6 c6] q7 _ Try.underlying77 rfl (by kernel_rfl) rfl ?_))
        refine HS7.mono ?_
        rintro e8 xw8 ⟨rfl, ow8, H8, C8⟩
        have HP := Lib.hid (HOUT.out xw8 ow8 ⟨A6, m6, c6, d.a.ys ++ [ya]⟩ ya HYA.out.1 rfl H8 C8)
        clear H8 C8 HS7
        go_wp2_with fail
        go_end0
        exact HP.out
      · refine op_build_lst1 (k := kB) 5 (some 68) 68 31 1 _ 24 [ya] rfl rfl rfl rfl Try.underlying68 info_kB rfl rfl (by simp [Act.eval, kB, Sl.flat]) (by intro v hv; simp [kB, Sl.flat] at hv; rw [hv]; rfl) (by omega) (by omega) ?_
        intro gl wl ql bl hgl
        have T0 := T0.trans (bl.mono T0.size)
        refine ⟨fun _ => T0, ?_⟩
        simp only [Act.put, Z1, Z2, Z3]
        refine Held.oneB 2 (by kernel_rfl) ?_
        refine op_append_lst0 (k := kB) 2 (some 65) 68 31 rfl rfl rfl rfl Try.underlying68 _ 24 info_kB rfl u6.heap.size u6.heap.size d.a.n d.a.c d.a.A (.slice none 0 0) [] d.a.ys rfl rfl (OwnL.nil _ _ _ _) (Lst.below (OwnL.lst (OwnL.below HDA.out.a bou6) (fun _ _ => trivial)) T0) (by have := HFE.out; have := HDN.out; simp; omega) (by omega) T0.size ?_
        intro v5 xw5 o5 g5 n5
        have o5 : OwnL kB 31 xw5 u6.heap.size v5 d.a.ys := o5
        obtain ⟨A5, m5, c5, rfl, hm5, -⟩ := OwnL.form2 o5
        have ql := ql.grown g5 (by simp [Value.ownBlock])
        have T0 := T0.grown g5 T0.size (by simp [Value.ownBlock])
        refine ⟨fun _ => T0, ?_⟩
        simp only [Act.put, Z1, Z2, Z3]
        refine Held.oneB 6 (by kernel_rfl) ?_
        obtain ⟨wz, hwz⟩ : ∃ wz, wz = xw5 := ⟨_, rfl⟩
        rw [← hwz] at o5 ql T0 ⊢
        clear hwz
        refine op_append_lst0 (k := kB) 6 (some 69) 68 31 rfl rfl rfl rfl Try.underlying68 _ 24 info_kB rfl u6.heap.size wz.heap.size 1 1 (some ⟨gl, 0, none⟩) (.slice A5 m5 c5) d.a.ys [ya] rfl rfl o5 (lst_whole ql rfl (fun _ _ => trivial)) (by have := HFE.out; omega) (by omega) T0.size ?_
        intro v6 xw6 o6 g6 n6
        obtain ⟨A6, m6, c6, rfl, hm6, -⟩ := OwnL.form2 o6
        have T0 : Below u6.heap.size u6 xw6 := T0.grown g6 T0.size (fun b e => (OwnL.lt o5 b e).1)
        refine ⟨fun _ => T0, ?_⟩
        simp only [Act.put, Z1, Z2, Z3]
        refine Held.takeB (v := .pointer (some ⟨w9.heap.size, 3, none⟩)) 7 (some 70) [8] rfl rfl (by kernel_rfl) (by kernel_rfl) (by kernel_rfl) (by kernel_rfl) (fun _ _ _ h => h) rfl (Held.y_field (k := 3) (s := 0) rfl rfl Try.underlying77 rfl (by kernel_rfl) rfl) T0 ?_
        simp only [Act.put, Z1, Z2, Z3]
        refine Held.oneB 8 (by kernel_rfl) ?_
        refine op_store_cell 8 none 68 w9.heap.size 3 77 _ (.slice A6 m6 c6) rfl rfl rfl rfl rfl rfl (qu6.below T0 hl6) (by simp) (by kernel_rfl) rfl rfl ?_
        intro xw7 q7 g7
        refine ⟨fun h => (by cases h.symm.trans (show _ = true by kernel_rfl)), ?_⟩
        simp only [Act.put]
        refine Held.doneB (by kernel_rfl) ?_ _
        have q7 : Blk xw7 w9.heap.size 77 #[encStr d.k, .bool true, .slice ya.A ya.n ya.c, .slice A6 m6 c6] := q7
        have o7 : OwnL kB 31 xw7 u6.heap.size (.slice A6 m6 c6) (d.a.ys ++ [ya]) := OwnL.kept o6 g7 (.inr fun e => OwnL.ne_blk o6 (qu6.below T0 hl6) (by decide) e)
        have b7 : Below w9.heap.size w9 xw7 := (bou6.trans (T0.mono bou6.size)).grown g7 (Nat.le_trans bou6.size T0.size) (fun b e => by injection e with e; rw [← e]; exact Nat.le_refl _)
        have h26 := bou6.size
        have he7 : CrOk (fun b => ow2 b = 1 ∨ w9.heap.size ≤ b) xw7 (N + 2) ⟨d.k, true, ya, ⟨A6, m6, c6, d.a.ys ++ [ya]⟩⟩ := by
          have hya : Rd (fun b => ow2 b = 1 ∨ w9.heap.size ≤ b) xw7 ya := HYA.out.2 xw7 (((KeepsP.of_grown gu5 (fun b e hb => by injection e with e; rw [← e] at hb; exact Nat.lt_irrefl _ hb)).trans ((KeepsP.of_grown gu6 (fun b e hb => by injection e with e; rw [← e] at hb; exact Nat.lt_irrefl _ hb)).trans ((KeepsP.of_below T0).trans (KeepsP.of_grown g7 (fun b e hb => by injection e with e; rw [← e] at hb; exact Nat.lt_irrefl _ hb))))))
          exact ⟨hya, OwnL.less o7 (Nat.zero_le _), fun b e => .inr (Nat.le_trans h26 (OwnL.lt o7 b e).1), fun z hz => by
            rcases List.mem_append.1 hz with hz | hz
            · exact ((HDA.out.ys z hz).keep (KeepsP.of_below b7)).less fun b hb _ => .inl hb
            · rw [List.mem_singleton.1 hz]; exact hya, by have := HFE2.out; simp; omega⟩
        have HS7 := HSET.out xw7 b7 _ he7
        clear he7 o7 o6 o5
        go_wp2_with (first
          | (refine wpList_load_blk (w := xw7) rfl 77 _ rfl w9.heap.size 4 rfl 77 #[encStr d.k, .bool true, .slice ya.A ya.n ya.c, .slice A6 m6 c6] q7 _ Try.underlying77 rfl (by kernel_rfl) rfl ?_))
        refine HS7.mono ?_
        rintro e8 xw8 ⟨rfl, ow8, H8, C8⟩
        have HP := Lib.hid (HOUT.out xw8 ow8 ⟨A6, m6, c6, d.a.ys ++ [ya]⟩ ya HYA.out.1 rfl H8 C8)
        clear H8 C8 HS7
        go_wp2_with fail
        go_end0
        exact HP.out
    · refine op_build_lst (k := kC) 10 (some 41) 26 77 1 _ 72 [⟨x, false, Bs.nil, Bl.nil⟩] rfl rfl rfl rfl Try.underlying26 info_kC rfl rfl (by simp [Act.eval, kC, Cr.cells, Bs.nil, Bl.nil]) (by omega) (by decide) ?_
      intro gl wl ql bl hgl
      have T0 := T0.trans (bl.mono T0.size)
      refine ⟨fun _ => T0, ?_⟩
      simp only [Act.put, Z1, Z2, Z3]
      refine Held.oneB 7 (by kernel_rfl) ?_
      refine op_append_lst0 (k := kC) 7 (some 38) 26 77 rfl rfl rfl rfl Try.underlying26 _ 72 info_kC rfl w5.heap.size w5.heap.size m c5 Af (.slice none 0 0) [] (l.take m) rfl rfl (OwnL.nil _ _ _ _) (Lst.below HLL1.out T0) (by have := HLE.out; have := HLF.out; simp; omega) (by omega) T0.size ?_
      intro v6 w6 o6 g6 n6
      have o6 : OwnL kC 77 w6 w5.heap.size v6 (l.take m) := o6
      obtain ⟨A6, m6, c6, rfl, hm6, -⟩ := OwnL.form2 o6
      have ql := ql.grown g6 (by simp [Value.ownBlock])
      have T0 := T0.grown g6 T0.size (by simp [Value.ownBlock])
      refine ⟨fun _ => T0, ?_⟩
      simp only [Act.put, Z1, Z2, Z3]
      refine Held.oneB 11 (by kernel_rfl) ?_
      obtain ⟨wz, hwz⟩ : ∃ wz, wz = w6 := ⟨_, rfl⟩
      rw [← hwz] at o6 ql T0 ⊢
      clear hwz
      refine op_append_lst0 (k := kC) 11 (some 42) 26 77 rfl rfl rfl rfl Try.underlying26 _ 72 info_kC rfl w5.heap.size wz.heap.size 1 1 (some ⟨gl, 0, none⟩) (.slice A6 m6 c6) (l.take m) [⟨x, false, Bs.nil, Bl.nil⟩] rfl rfl o6 (lst_whole ql rfl (fun _ _ => trivial)) (by have := HLE.out; have := HLF.out; simp; omega) (by omega) T0.size ?_
      intro v7 w7 o7 g7 n7
      obtain ⟨A7, m7, c7, rfl, hm7, -⟩ := OwnL.form2 o7
      have T0 : Below w5.heap.size w5 w7 := T0.grown g7 T0.size (fun b e => (OwnL.lt o6 b e).1)
      refine ⟨fun _ => T0, ?_⟩
      simp only [Act.put, Z1, Z2, Z3]
      refine Held.oneB 18 (by kernel_rfl) ?_
      refine op_append_lst0 (k := kC) 18 (some 49) 26 77 rfl rfl rfl rfl Try.underlying26 _ 72 info_kC rfl w5.heap.size w5.heap.size (n5 - m) cb Ab (.slice A7 m7 c7) (l.take m ++ [⟨x, false, Bs.nil, Bl.nil⟩]) (l.drop m) rfl rfl o7 (Lst.below HLL2.out T0) (by have := HLE.out; have := HLF.out; simp; omega) (by omega) T0.size ?_
      intro v8 w8 o8 g8 n8
      obtain ⟨A8, m8, c8, rfl, hm8, -⟩ := OwnL.form2 o8
      have T8 : Below w5.heap.size w5 w8 := T0.grown g8 T0.size (fun b e => (OwnL.lt o7 b e).1)
      refine ⟨fun h => (by cases h.symm.trans (show _ = true by kernel_rfl)), ?_⟩
      simp only [Act.put, Z1, Z2, Z3]
      refine Sto.oneB_v 19 (some 50) (v := .pointer (some ⟨r, 0, none⟩)) (by kernel_rfl) rfl rfl rfl (Sl.y_nil rfl rfl) (by kernel_rfl) ?_
      simp only [Act.put, Z1, Z2, Z3]
      refine Sto.oneB_v 20 (some 51) (v := .pointer (some ⟨r, 0, none⟩)) (by kernel_rfl) rfl rfl rfl (Held.y_field (k := 0) (s := 0) rfl rfl Try.underlying29 rfl (by kernel_rfl) rfl) (by kernel_rfl) ?_
      simp only [Act.put, Z1, Z2, Z3]
      refine Held.oneB 21 (by kernel_rfl) ?_
      refine op_store_cell 21 none 26 r 0 29 _ (.slice A8 m8 c8) rfl rfl rfl rfl rfl rfl (hb5.below T8 hrl5) (by simp) (by kernel_rfl) rfl rfl ?_
      intro w9 q9 g9
      refine ⟨fun h => (by cases h.symm.trans (show _ = true by kernel_rfl)), ?_⟩
      simp only [Act.put]
      refine Held.doneB (by kernel_rfl) ?_ _
      have q9 : Blk w9 r 29 #[.slice A8 m8 c8, .slice A5' n5' c5'] := q9
      have K9 : KeepsP (fun b => b ≠ r ∧ b < w5.heap.size) w5 w9 := (KeepsP.of_below T8).trans (KeepsP.of_grown g9 (fun b e hb => by injection e with e; exact hb.1 e.symm))
      have o9 : OwnL kC 77 w9 w5.heap.size (.slice A8 m8 c8) (l.take m ++ [⟨x, false, Bs.nil, Bl.nil⟩] ++ l.drop m) := OwnL.kept o8 g9 (.inr fun e => OwnL.ne_blk o8 (hb5.below T8 hrl5) (by decide) e)
      have k9 : KeepsP (fun b => ow1 b = 1) w5 w9 := ⟨K9.os, K9.tape, K9.output, K9.size, fun b o hb ho => K9.block b o ⟨fun e => by have h1 : ow1 b = 1 := hb; have h2 := HOW.out; rw [e] at h1; omega, (Array.getElem?_eq_some_iff.1 ho).1⟩ ho⟩
      obtain ⟨ow2, H2, C2⟩ := HREL.out w9 A8 m8 c8 _ K9 q9 ⟨OwnL.less o9 (Nat.zero_le _), fun b e => .inr (OwnL.lt o9 b e).1, fun e he => by
        have hcase : e ∈ l ∨ e = ⟨x, false, Bs.nil, Bl.nil⟩ := by
          rcases List.mem_append.1 he with he | he
          · rcases List.mem_append.1 he with he | he
            · exact .inl (List.mem_of_mem_take he)
            · exact .inr (List.mem_singleton.1 he)
          · exact .inl (List.mem_of_mem_drop he)
        rcases hcase with h | rfl
        · exact (((HFR.out.ok e h).keep k9).more (by omega)).less fun b hb _ => .inl hb
        · exact ⟨Rd.nil _ _, OwnL.nil _ _ _ _, (fun b e => by cases e), (fun y hy => by cases hy), Nat.zero_le _⟩, by have := HFR.out.few; simp; omega⟩ (by omega)
      obtain ⟨d, hde⟩ : ∃ d : Cr, d = ⟨x, false, Bs.nil, Bl.nil⟩ := ⟨_, rfl⟩
      obtain ⟨l2, hl2⟩ : ∃ l2, l.take m ++ [(⟨x, false, Bs.nil, Bl.nil⟩ : Cr)] ++ l.drop m = l2 := ⟨_, rfl⟩
      rw [hl2] at H2
      have hal : absC l2 = insC (absC l) m ⟨x, false, [], []⟩ := by rw [← hl2]; unfold absC insC; simp [List.map_take, List.map_drop, Cr.p, Bs.nil, Bl.nil]
      have hd : l2[m]? = some d := by
        rw [← hl2, hde, List.getElem?_append_left (by simp; omega), List.getElem?_append_right (by simp; omega)]
        simp [Nat.min_eq_left hml]
      have HFE2 := Lib.hid (show d.a.ys.length + 1 ≤ N + 2 by rw [hde]; simp [Bl.nil])
      have HIN := Lib.hid (fun (V : World) (hV : Below w9.heap.size w9 V) => HIN9.out V (K9.trans (KeepsP.of_below hV)))
      have HOUT := Lib.hid (fun (V : World) (ow8 : Nat → Nat) (a8 : Bl) (ya : Bs) (hz : ya.zs = y.zs) (ha : a8.ys = d.a.ys ++ [ya]) (H8 : Ref ow8 V r (N + 2) (l2.set m ⟨d.k, true, ya, a8⟩) O2) (C8 : Chg ow2 ow8 w9 V) => show PutPost ow w r N l O x y.zs (.returned (.tuple #[])) V from ⟨rfl, ow8, _, O2, H8, C5.trans (C2.trans C8), HAO.out, .inr ⟨m, hat, fun d hd => by obtain ⟨e, h1, rfl⟩ := absC_at' hd; exact hno e h1, by rw [absC_set, hal]; show (insC (absC l) m _).set m ⟨d.k, true, ya.zs, a8.ys.map (·.zs)⟩ = _; rw [hz, ha, hde]; show _ = _; simp [Bl.nil, hz]⟩⟩)
      clear hde hl2 hal o9 k9 K9 C2 hat hml q9 g9 o8 T8 g8 n8 o7 g7 n7 hm7 hm8 o6 hm6 ql T0
      obtain ⟨A2, n2, c2, A2', n2', c2', hb2, HF2, -, -⟩ := H2.blk
      have hc2 := hb2.cell (i := 0) rfl
      obtain ⟨g, rfl, -, hmn, hgl, hrg, -, -, -, -⟩ := own_at HF2.own hd
      have hrg : w9.rangeAt g (0 + m * 4) [encStr d.k, .bool d.sh, .slice d.x.A d.x.n d.x.c, .slice d.a.A d.a.n d.a.c] := hrg
      have HDA := Lib.hid (CrOk.of H2 hd)
      have HSET := Lib.hid (fun (V : World) (hV : Below w9.heap.size w9 V) (e : Cr) (he : CrOk (fun b => ow2 b = 1 ∨ w9.heap.size ≤ b) V (N + 2) e) => set_new (w1 := V) H2 hV (List.getElem?_eq_some_iff.1 hd).1 (e := e) he (by omega))
      have HFE := Lib.hid (show d.a.ys.length + 2 ≤ 1048576 by have := (CrOk.of H2 hd).few; omega)
      have HDN := Lib.hid (show d.a.n = d.a.ys.length by obtain ⟨A9, c9, e9, _⟩ := OwnL.form (CrOk.of H2 hd).a; injection e9)
      have HYV := Lib.hid (fun (V : World) (hV : Below w9.heap.size w9 V) => cpy_any (HIN.out V hV))
      clear HF2 hb2 hd
      go_wp2_with (first
        | (refine Held.wpList_run (w := w9) rfl (v := .pointer (some ⟨g, 0 + m * 4, none⟩)) (Held.y_addr (S := fun _ => True) rfl rfl rfl (Rs.run_addr_of (P := Try.prog) 26 77 g 0 n2 c2 m 4 .i64 Try.underlying26 (by kernel_rfl) hmn) _ trivial) ?_)
        | (refine Held.wpList_run (w := w9) rfl (v := .agg #[encStr d.k, .bool d.sh, .slice d.x.A d.x.n d.x.c, .slice d.a.A d.a.n d.a.c]) (Rs.y_load_range (S := fun W => W = w9) (cs := [encStr d.k, .bool d.sh, .slice d.x.A d.x.n d.x.c, .slice d.a.A d.a.n d.a.c]) rfl rfl Try.underlying77 rfl (by kernel_rfl) rfl (fun W hW => hW ▸ hrg) _ rfl) ?_)
        | (refine wpList_alloc_blk (w := w9) rfl 77 rfl #[encStr [], .bool false, .slice none 0 0, .slice none 0 0] (by kernel_rfl) ?_; intro u2 qu2 gu2 zu2; have bou2 : Below w9.heap.size w9 u2 := (Below.refl _ _).grown gu2 (Nat.le_refl _) (by simp))
        | (refine wpList_store_blk (w := u2) rfl 77 _ _ rfl w9.heap.size 4 rfl 77 _ #[encStr d.k, .bool d.sh, .slice d.x.A d.x.n d.x.c, .slice d.a.A d.a.n d.a.c] rfl qu2 (by kernel_rfl) rfl rfl (by kernel_rfl) ?_; intro u3 qu3 gu3 zu3; have bou3 : Below w9.heap.size w9 u3 := bou2.grown gu3 bou2.size (fun b e => by injection e with e; rw [← e]; exact Nat.le_refl _)))
      refine (HYV.out u3 bou3).mono ?_
      rintro e4 u4 ⟨ya, rfl, hyz, -, hyr, b4⟩
      have hl3 := qu3.lt
      have bou4 : Below w9.heap.size w9 u4 := bou3.trans (b4.mono bou3.size)
      have qu4 : Blk u4 w9.heap.size 77 #[encStr d.k, .bool d.sh, .slice d.x.A d.x.n d.x.c, .slice d.a.A d.a.n d.a.c] := qu3.below b4 hl3
      have HYA := Lib.hid (And.intro hyz (fun (V : World) (hV : KeepsP (fun b => w9.heap.size < b) u4 V) => (hyr.less (S' := fun b => w9.heap.size < b) (fun b hb _ => Nat.lt_of_lt_of_le hl3 hb)).keep hV |>.less (S' := fun b => ow2 b = 1 ∨ w9.heap.size ≤ b) fun b hb _ => .inr (Nat.le_of_lt hb)))
      clear hyz hyr b4 qu3 gu3 zu3 qu2 gu2 zu2
      go_wp2_with (first
        | (refine wpList_store_field (w := u4) rfl 4 _ _ rfl w9.heap.size 1 rfl 77 _ (.bool true) rfl qu4 (by simp) (by kernel_rfl) rfl rfl ?_; intro u5 qu5 gu5 zu5; have bou5 : Below w9.heap.size w9 u5 := bou4.grown gu5 bou4.size (fun b e => by injection e with e; rw [← e]; exact Nat.le_refl _))
        | (refine wpList_store_field (w := u5) rfl 31 _ _ rfl w9.heap.size 2 rfl 77 _ (.slice ya.A ya.n ya.c) rfl qu5 (by simp) (by kernel_rfl) rfl rfl ?_; intro u6 qu6 gu6 zu6; have bou6 : Below w9.heap.size w9 u6 := bou5.grown gu6 bou5.size (fun b e => by injection e with e; rw [← e]; exact Nat.le_refl _)))
      have qu6 : Blk u6 w9.heap.size 77 #[encStr d.k, .bool true, .slice ya.A ya.n ya.c, .slice d.a.A d.a.n d.a.c] := qu6
      have hl6 := qu6.lt
      refine wp_region_bar (T := fun W => Below u6.heap.size u6 W) (s := 8) (by kernel_rfl) ?_
      change wpAnyB _ _ _ _ _ _ _ _ _ u6.drew
      have T0 : Below u6.heap.size u6 u6.drew := (Below.refl _ _).drew
      refine Held.takeB (v := .pointer (some ⟨w9.heap.size, 3, none⟩)) 0 (some 63) [8] rfl rfl (by kernel_rfl) (by kernel_rfl) (by kernel_rfl) (by kernel_rfl) (fun _ _ _ h => h) rfl (Held.y_field (k := 3) (s := 0) rfl rfl Try.underlying77 rfl (by kernel_rfl) rfl) T0 ?_
      simp only [Act.put, Z1, Z2, Z3]
      refine Held.takeB (v := .slice d.a.A d.a.n d.a.c) 1 (some 64) [8] rfl rfl (by kernel_rfl) (by kernel_rfl) (by kernel_rfl) (by kernel_rfl) (fun _ _ _ h => h) rfl (Held.y_load rfl rfl (by kernel_rfl) (fun W hW => (qu6.below hW hl6).cell rfl)) T0 ?_
      simp only [Act.put, Z1, Z2, Z3]
      refine Held.takeB (v := .pointer (some ⟨w9.heap.size, 2, none⟩)) 3 (some 66) [8] rfl rfl (by kernel_rfl) (by kernel_rfl) (by kernel_rfl) (by kernel_rfl) (fun _ _ _ h => h) rfl (Held.y_field (k := 2) (s := 0) rfl rfl Try.underlying77 rfl (by kernel_rfl) rfl) T0 ?_
      simp only [Act.put, Z1, Z2, Z3]
      refine Held.takeB (v := .slice ya.A ya.n ya.c) 4 (some 67) [8] rfl rfl (by kernel_rfl) (by kernel_rfl) (by kernel_rfl) (by kernel_rfl) (fun _ _ _ h => h) rfl (Held.y_load rfl rfl (by kernel_rfl) (fun W hW => (qu6.below hW hl6).cell rfl)) T0 ?_
      simp only [Act.put, Z1, Z2, Z3]
      refine Held.twoB 2 5 (by kernel_rfl) ?_ ?_
      · refine op_append_lst0 (k := kB) 2 (some 65) 68 31 rfl rfl rfl rfl Try.underlying68 _ 24 info_kB rfl u6.heap.size u6.heap.size d.a.n d.a.c d.a.A (.slice none 0 0) [] d.a.ys rfl rfl (OwnL.nil _ _ _ _) (Lst.below (OwnL.lst (OwnL.below HDA.out.a bou6) (fun _ _ => trivial)) T0) (by have := HFE.out; have := HDN.out; simp; omega) (by omega) T0.size ?_
        intro v5 xw5 o5 g5 n5
        have o5 : OwnL kB 31 xw5 u6.heap.size v5 d.a.ys := o5
        obtain ⟨A5, m5, c5, rfl, hm5, -⟩ := OwnL.form2 o5
        have T0 := T0.grown g5 T0.size (by simp [Value.ownBlock])
        refine ⟨fun _ => T0, ?_⟩
        simp only [Act.put, Z1, Z2, Z3]
        refine Held.oneB 5 (by kernel_rfl) ?_
        refine op_build_lst1 (k := kB) 5 (some 68) 68 31 1 _ 24 [ya] rfl rfl rfl rfl Try.underlying68 info_kB rfl rfl (by simp [Act.eval, kB, Sl.flat]) (by intro v hv; simp [kB, Sl.flat] at hv; rw [hv]; rfl) (by omega) (by omega) ?_
        intro gl wl ql bl hgl
        have o5 := OwnL.below o5 bl
        have T0 := T0.trans (bl.mono T0.size)
        refine ⟨fun _ => T0, ?_⟩
        simp only [Act.put, Z1, Z2, Z3]
        refine Held.oneB 6 (by kernel_rfl) ?_
        obtain ⟨wz, hwz⟩ : ∃ wz, wz = wl := ⟨_, rfl⟩
        rw [← hwz] at o5 ql T0 ⊢
        clear hwz
        refine op_append_lst0 (k := kB) 6 (some 69) 68 31 rfl rfl rfl rfl Try.underlying68 _ 24 info_kB rfl u6.heap.size wz.heap.size 1 1 (some ⟨gl, 0, none⟩) (.slice A5 m5 c5) d.a.ys [ya] rfl rfl o5 (lst_whole ql rfl (fun _ _ => trivial)) (by have := HFE.out; omega) (by omega) T0.size ?_
        intro v6 xw6 o6 g6 n6
        obtain ⟨A6, m6, c6, rfl, hm6, -⟩ := OwnL.form2 o6
        have T0 : Below u6.heap.size u6 xw6 := T0.grown g6 T0.size (fun b e => (OwnL.lt o5 b e).1)
        refine ⟨fun _ => T0, ?_⟩
        simp only [Act.put, Z1, Z2, Z3]
        refine Held.takeB (v := .pointer (some ⟨w9.heap.size, 3, none⟩)) 7 (some 70) [8] rfl rfl (by kernel_rfl) (by kernel_rfl) (by kernel_rfl) (by kernel_rfl) (fun _ _ _ h => h) rfl (Held.y_field (k := 3) (s := 0) rfl rfl Try.underlying77 rfl (by kernel_rfl) rfl) T0 ?_
        simp only [Act.put, Z1, Z2, Z3]
        refine Held.oneB 8 (by kernel_rfl) ?_
        refine op_store_cell 8 none 68 w9.heap.size 3 77 _ (.slice A6 m6 c6) rfl rfl rfl rfl rfl rfl (qu6.below T0 hl6) (by simp) (by kernel_rfl) rfl rfl ?_
        intro xw7 q7 g7
        refine ⟨fun h => (by cases h.symm.trans (show _ = true by kernel_rfl)), ?_⟩
        simp only [Act.put]
        refine Held.doneB (by kernel_rfl) ?_ _
        have q7 : Blk xw7 w9.heap.size 77 #[encStr d.k, .bool true, .slice ya.A ya.n ya.c, .slice A6 m6 c6] := q7
        have o7 : OwnL kB 31 xw7 u6.heap.size (.slice A6 m6 c6) (d.a.ys ++ [ya]) := OwnL.kept o6 g7 (.inr fun e => OwnL.ne_blk o6 (qu6.below T0 hl6) (by decide) e)
        have b7 : Below w9.heap.size w9 xw7 := (bou6.trans (T0.mono bou6.size)).grown g7 (Nat.le_trans bou6.size T0.size) (fun b e => by injection e with e; rw [← e]; exact Nat.le_refl _)
        have h26 := bou6.size
        have he7 : CrOk (fun b => ow2 b = 1 ∨ w9.heap.size ≤ b) xw7 (N + 2) ⟨d.k, true, ya, ⟨A6, m6, c6, d.a.ys ++ [ya]⟩⟩ := by
          have hya : Rd (fun b => ow2 b = 1 ∨ w9.heap.size ≤ b) xw7 ya := HYA.out.2 xw7 (((KeepsP.of_grown gu5 (fun b e hb => by injection e with e; rw [← e] at hb; exact Nat.lt_irrefl _ hb)).trans ((KeepsP.of_grown gu6 (fun b e hb => by injection e with e; rw [← e] at hb; exact Nat.lt_irrefl _ hb)).trans ((KeepsP.of_below T0).trans (KeepsP.of_grown g7 (fun b e hb => by injection e with e; rw [← e] at hb; exact Nat.lt_irrefl _ hb))))))
          exact ⟨hya, OwnL.less o7 (Nat.zero_le _), fun b e => .inr (Nat.le_trans h26 (OwnL.lt o7 b e).1), fun z hz => by
            rcases List.mem_append.1 hz with hz | hz
            · exact ((HDA.out.ys z hz).keep (KeepsP.of_below b7)).less fun b hb _ => .inl hb
            · rw [List.mem_singleton.1 hz]; exact hya, by have := HFE2.out; simp; omega⟩
        have HS7 := HSET.out xw7 b7 _ he7
        clear he7 o7 o6 o5
        go_wp2_with (first
          | (refine wpList_load_blk (w := xw7) rfl 77 _ rfl w9.heap.size 4 rfl 77 #[encStr d.k, .bool true, .slice ya.A ya.n ya.c, .slice A6 m6 c6] q7 _ Try.underlying77 rfl (by kernel_rfl) rfl ?_))
        refine HS7.mono ?_
        rintro e8 xw8 ⟨rfl, ow8, H8, C8⟩
        have HP := Lib.hid (HOUT.out xw8 ow8 ⟨A6, m6, c6, d.a.ys ++ [ya]⟩ ya HYA.out.1 rfl H8 C8)
        clear H8 C8 HS7
        go_wp2_with fail
        go_end0
        exact HP.out
      · refine op_build_lst1 (k := kB) 5 (some 68) 68 31 1 _ 24 [ya] rfl rfl rfl rfl Try.underlying68 info_kB rfl rfl (by simp [Act.eval, kB, Sl.flat]) (by intro v hv; simp [kB, Sl.flat] at hv; rw [hv]; rfl) (by omega) (by omega) ?_
        intro gl wl ql bl hgl
        have T0 := T0.trans (bl.mono T0.size)
        refine ⟨fun _ => T0, ?_⟩
        simp only [Act.put, Z1, Z2, Z3]
        refine Held.oneB 2 (by kernel_rfl) ?_
        refine op_append_lst0 (k := kB) 2 (some 65) 68 31 rfl rfl rfl rfl Try.underlying68 _ 24 info_kB rfl u6.heap.size u6.heap.size d.a.n d.a.c d.a.A (.slice none 0 0) [] d.a.ys rfl rfl (OwnL.nil _ _ _ _) (Lst.below (OwnL.lst (OwnL.below HDA.out.a bou6) (fun _ _ => trivial)) T0) (by have := HFE.out; have := HDN.out; simp; omega) (by omega) T0.size ?_
        intro v5 xw5 o5 g5 n5
        have o5 : OwnL kB 31 xw5 u6.heap.size v5 d.a.ys := o5
        obtain ⟨A5, m5, c5, rfl, hm5, -⟩ := OwnL.form2 o5
        have ql := ql.grown g5 (by simp [Value.ownBlock])
        have T0 := T0.grown g5 T0.size (by simp [Value.ownBlock])
        refine ⟨fun _ => T0, ?_⟩
        simp only [Act.put, Z1, Z2, Z3]
        refine Held.oneB 6 (by kernel_rfl) ?_
        obtain ⟨wz, hwz⟩ : ∃ wz, wz = xw5 := ⟨_, rfl⟩
        rw [← hwz] at o5 ql T0 ⊢
        clear hwz
        refine op_append_lst0 (k := kB) 6 (some 69) 68 31 rfl rfl rfl rfl Try.underlying68 _ 24 info_kB rfl u6.heap.size wz.heap.size 1 1 (some ⟨gl, 0, none⟩) (.slice A5 m5 c5) d.a.ys [ya] rfl rfl o5 (lst_whole ql rfl (fun _ _ => trivial)) (by have := HFE.out; omega) (by omega) T0.size ?_
        intro v6 xw6 o6 g6 n6
        obtain ⟨A6, m6, c6, rfl, hm6, -⟩ := OwnL.form2 o6
        have T0 : Below u6.heap.size u6 xw6 := T0.grown g6 T0.size (fun b e => (OwnL.lt o5 b e).1)
        refine ⟨fun _ => T0, ?_⟩
        simp only [Act.put, Z1, Z2, Z3]
        refine Held.takeB (v := .pointer (some ⟨w9.heap.size, 3, none⟩)) 7 (some 70) [8] rfl rfl (by kernel_rfl) (by kernel_rfl) (by kernel_rfl) (by kernel_rfl) (fun _ _ _ h => h) rfl (Held.y_field (k := 3) (s := 0) rfl rfl Try.underlying77 rfl (by kernel_rfl) rfl) T0 ?_
        simp only [Act.put, Z1, Z2, Z3]
        refine Held.oneB 8 (by kernel_rfl) ?_
        refine op_store_cell 8 none 68 w9.heap.size 3 77 _ (.slice A6 m6 c6) rfl rfl rfl rfl rfl rfl (qu6.below T0 hl6) (by simp) (by kernel_rfl) rfl rfl ?_
        intro xw7 q7 g7
        refine ⟨fun h => (by cases h.symm.trans (show _ = true by kernel_rfl)), ?_⟩
        simp only [Act.put]
        refine Held.doneB (by kernel_rfl) ?_ _
        have q7 : Blk xw7 w9.heap.size 77 #[encStr d.k, .bool true, .slice ya.A ya.n ya.c, .slice A6 m6 c6] := q7
        have o7 : OwnL kB 31 xw7 u6.heap.size (.slice A6 m6 c6) (d.a.ys ++ [ya]) := OwnL.kept o6 g7 (.inr fun e => OwnL.ne_blk o6 (qu6.below T0 hl6) (by decide) e)
        have b7 : Below w9.heap.size w9 xw7 := (bou6.trans (T0.mono bou6.size)).grown g7 (Nat.le_trans bou6.size T0.size) (fun b e => by injection e with e; rw [← e]; exact Nat.le_refl _)
        have h26 := bou6.size
        have he7 : CrOk (fun b => ow2 b = 1 ∨ w9.heap.size ≤ b) xw7 (N + 2) ⟨d.k, true, ya, ⟨A6, m6, c6, d.a.ys ++ [ya]⟩⟩ := by
          have hya : Rd (fun b => ow2 b = 1 ∨ w9.heap.size ≤ b) xw7 ya := HYA.out.2 xw7 (((KeepsP.of_grown gu5 (fun b e hb => by injection e with e; rw [← e] at hb; exact Nat.lt_irrefl _ hb)).trans ((KeepsP.of_grown gu6 (fun b e hb => by injection e with e; rw [← e] at hb; exact Nat.lt_irrefl _ hb)).trans ((KeepsP.of_below T0).trans (KeepsP.of_grown g7 (fun b e hb => by injection e with e; rw [← e] at hb; exact Nat.lt_irrefl _ hb))))))
          exact ⟨hya, OwnL.less o7 (Nat.zero_le _), fun b e => .inr (Nat.le_trans h26 (OwnL.lt o7 b e).1), fun z hz => by
            rcases List.mem_append.1 hz with hz | hz
            · exact ((HDA.out.ys z hz).keep (KeepsP.of_below b7)).less fun b hb _ => .inl hb
            · rw [List.mem_singleton.1 hz]; exact hya, by have := HFE2.out; simp; omega⟩
        have HS7 := HSET.out xw7 b7 _ he7
        clear he7 o7 o6 o5
        go_wp2_with (first
          | (refine wpList_load_blk (w := xw7) rfl 77 _ rfl w9.heap.size 4 rfl 77 #[encStr d.k, .bool true, .slice ya.A ya.n ya.c, .slice A6 m6 c6] q7 _ Try.underlying77 rfl (by kernel_rfl) rfl ?_))
        refine HS7.mono ?_
        rintro e8 xw8 ⟨rfl, ow8, H8, C8⟩
        have HP := Lib.hid (HOUT.out xw8 ow8 ⟨A6, m6, c6, d.a.ys ++ [ya]⟩ ya HYA.out.1 rfl H8 C8)
        clear H8 C8 HS7
        go_wp2_with fail
        go_end0
        exact HP.out
end
end Go.Proofs.Ytbippmbcgkicaaa.Sto
