/-
  dominohelp.Seq2 of package bitonic's iterator, by its contract.
  dominohelp.Plain of lists of numbers, and the document's own answers for package bitonic, by their contracts.
-/
import Derived.Test.YtagcnbcmegdgmaaDoorB3
import Derived.Test.YtagcnbcmegdgmaaDoorB2
set_option linter.unusedVariables false
namespace Go.Proofs.YtagcnbcmegdgmaaDoor.Bi
open Go.RowKit Go.Shelf Go.Proofs.YtagcnbcmegdgmaaDoor Mem Held Go.Proofs.YtagcnbcmegdgmaaDoor.Range
attribute [local go_sem] Oper.semAt_some
attribute [local irreducible] wpList wpListIn Calls
def xsOf (l : List Nat) : List Int := l.map fun (a : Nat) => (a : Int)
def ysOf (t : Nat) (l : List Nat) : List Int := l.map fun (a : Nat) => (a : Int) + 2 ^ (t - 1)
def I2 (w V : World) (B gx gy t : Nat) (pre : List Nat) (W : World) : Prop := ∃ vx vy, Two w V B gx gy vx vy vx vy (xsOf pre) (ysOf t pre) W
theorem I2.from (w V : World) (B gx gy t : Nat) : OwnFrom B (I2 w V B gx gy t) := fun pre W W' row h hg hr => by
  obtain ⟨vx, vy, h⟩ := h
  exact ⟨vx, vy, h.keep hg hr⟩
theorem results_three {P : Program} {fn : Func} {p q r : Tmp} {t u v : TypeId} (h : fn.results = #[.cell p t, .cell q u, .cell r v]) (tmps : Array Value) (w : World) (g g' g'' : Nat) (x y z : Value) (hp : tmps.getD p undef = .pointer (some ⟨g, 0, none⟩)) (hq : tmps.getD q undef = .pointer (some ⟨g', 0, none⟩)) (hr : tmps.getD r undef = .pointer (some ⟨g'', 0, none⟩))
    (ht : plainT P t = true) (hu : plainT P u = true) (hv : plainT P v = true) (hc : w.cell? ⟨g, 0, none⟩ = some x) (hc' : w.cell? ⟨g', 0, none⟩ = some y) (hc'' : w.cell? ⟨g'', 0, none⟩ = some z) : (results fn tmps).run P w = .ok (.tuple #[x, y, z]) w := by
  have a1 : (asAddr (.pointer (some ⟨g, 0, none⟩))).run P w = .ok ⟨g, 0, none⟩ w := by simp [asAddr]
  have a2 : (asAddr (.pointer (some ⟨g', 0, none⟩))).run P w = .ok ⟨g', 0, none⟩ w := by simp [asAddr]
  have a3 : (asAddr (.pointer (some ⟨g'', 0, none⟩))).run P w = .ok ⟨g'', 0, none⟩ w := by simp [asAddr]
  have hp2 : tmps[p]?.getD undef = .pointer (some ⟨g, 0, none⟩) := by simpa using hp
  have hq2 : tmps[q]?.getD undef = .pointer (some ⟨g', 0, none⟩) := by simpa using hq
  have hr2 : tmps[r]?.getD undef = .pointer (some ⟨g'', 0, none⟩) := by simpa using hr
  simp only [results, h]
  simp [Sem.run_bind, Result.andThen, hp2, hq2, hr2, a1, a2, a3, Held.run_loadVar_cell t _ w x ht hc, Held.run_loadVar_cell u _ w y hu hc', Held.run_loadVar_cell v _ w z hv hc'']
set_option maxRecDepth 100000 in
set_option maxHeartbeats 8000000 in
theorem seq2_own (bn br most : Nat) (n r : Int) (s t : Nat) (ok : Bool) (w : World) (h0 : -9223372036854775808 ≤ n) (h1 : n ≤ 9223372036854775807) (hT : TzT w) (hF : Found (stg n) r s t ok)
    (hbn : Blk w bn 3 #[.int .i64 n]) (hbr : Blk w br 3 #[.int .i64 r]) (hm : (pairsOf n t ok).length ≤ most) (hm2 : most ≤ 70000) (hall : ∀ a ∈ pairsOf n t ok, a ≤ 65536) (ht : t ≤ 16) :
    Calls Tryd.prog 9 #[.func (.func 20) #[] #[.pointer (some ⟨bn, 0, none⟩), .pointer (some ⟨br, 0, none⟩)], .int .i64 (most : Int)] w fun e w' =>
      ∃ A1 c1 A2 c2, e = .returned (.tuple #[.slice A1 (pairsOf n t ok).length c1, .slice A2 (pairsOf n t ok).length c2, .bool true]) ∧ Mem.Own w' w.heap.size 3 .i64 (.slice A1 (pairsOf n t ok).length c1) (xsOf (pairsOf n t ok)) ∧ Mem.Own w' w.heap.size 3 .i64 (.slice A2 (pairsOf n t ok).length c2) (ysOf t (pairsOf n t ok)) ∧ Below w.heap.size w w' := by
  have hfn := fun W => Held.run_func_nil (P := Tryd.prog) 23 Tryd.underlying23 (.func 20) #[] #[.pointer (some ⟨bn, 0, none⟩), .pointer (some ⟨br, 0, none⟩)] W
  refine (callsIn_wide (n := 3)).1 ?_
  refine callsIn_of_wp_marks Tryd.func9 rfl trivial ?_ rfl
  simp only [Tryd.ntmps9, List.size_toArray, List.length_cons, List.length_nil, Nat.reduceAdd, Nat.reduceSub, Array.replicate_succ, Array.replicate_zero, List.push_toArray, List.append_toArray, List.nil_append, List.cons_append]
  refine wpIn_wide.2 ?_
  go_wp2_with (first
    | (refine Held.wpList_box_cell (w := w) rfl 3 _ rfl (.int .i64 (most : Int)) rfl rfl ?_; intro u1 q1 g1 z1)
    | (refine Held.wpList_alloc_cell (w := u1) rfl 25 rfl (.slice none 0 0) (by kernel_rfl) rfl ?_; intro u2 q2 g2 z2)
    | (refine Held.wpList_alloc_cell (w := u2) rfl 25 rfl (.slice none 0 0) (by kernel_rfl) rfl ?_; intro u3 q3 g3 z3)
    | (refine Held.wpList_alloc_cell (w := u3) rfl 4 rfl (.bool false) (by kernel_rfl) rfl ?_; intro u4 q4 g4 z4)
    | (refine Held.wpList_alloc_cell (w := u4) rfl 25 rfl (.slice none 0 0) (by kernel_rfl) rfl ?_; intro u5 q5 g5 z5)
    | (refine Held.wpList_alloc_cell (w := u5) rfl 25 rfl (.slice none 0 0) (by kernel_rfl) rfl ?_; intro u6 q6 g6 z6))
  have z1 := z1.out
  have z2 := z2.out
  have z3 := z3.out
  have z4 := z4.out
  have z5 := z5.out
  have z6 := z6.out
  have qm : u6.heap[w.heap.size]? = some (.cells #[.int .i64 (most : Int)] 3 (0, 0)) := Held.keep_cells (Held.keep_cells (Held.keep_cells (Held.keep_cells (Held.keep_cells q1 g2 (by simp)) g3 (by simp)) g4 (by simp)) g5 (by simp)) g6 (by simp)
  have qa : u6.heap[u1.heap.size]? = some (.cells #[.slice none 0 0] 25 (0, 0)) := Held.keep_cells (Held.keep_cells (Held.keep_cells (Held.keep_cells q2 g3 (by simp)) g4 (by simp)) g5 (by simp)) g6 (by simp)
  have qb : u6.heap[u2.heap.size]? = some (.cells #[.slice none 0 0] 25 (0, 0)) := Held.keep_cells (Held.keep_cells (Held.keep_cells q3 g4 (by simp)) g5 (by simp)) g6 (by simp)
  have qc : u6.heap[u3.heap.size]? = some (.cells #[.bool false] 4 (0, 0)) := Held.keep_cells (Held.keep_cells q4 g5 (by simp)) g6 (by simp)
  have qx := Held.keep_cells q5 g6 (by simp)
  have b6 : Below w.heap.size w u6 := ((((((Below.refl _ w).grown g1 (by omega) (by simp)).grown g2 (by omega) (by simp)).grown g3 (by omega) (by simp)).grown g4 (by omega) (by simp)).grown g5 (by omega) (by simp)).grown g6 (by omega) (by simp)
  obtain ⟨gm, hgm⟩ : ∃ g, w.heap.size = g := ⟨_, rfl⟩
  obtain ⟨ga, hga⟩ : ∃ g, u1.heap.size = g := ⟨_, rfl⟩
  obtain ⟨gb, hgb⟩ : ∃ g, u2.heap.size = g := ⟨_, rfl⟩
  obtain ⟨gc, hgc⟩ : ∃ g, u3.heap.size = g := ⟨_, rfl⟩
  obtain ⟨gx, hgx⟩ : ∃ g, u4.heap.size = g := ⟨_, rfl⟩
  obtain ⟨gy, hgy⟩ : ∃ g, u5.heap.size = g := ⟨_, rfl⟩
  obtain ⟨B, hB⟩ : ∃ g, u6.heap.size = g := ⟨_, rfl⟩
  have i6 : I2 w u6 B gx gy t [] u6 := ⟨_, _, by omega, by omega, by omega, by omega, by omega, by rw [← hgx]; exact qx, by rw [← hgy]; exact q6, Mem.Own.nil _ _ _ _, Mem.Own.nil _ _ _ _, by simp [Value.ownBlock], fun _ _ _ _ => rfl, b6, by omega⟩
  rw [hgm] at qm
  rw [hga] at qa
  rw [hgb] at qb
  rw [hgc] at qc
  have hwm : w.heap.size ≤ gm := by omega
  have h12 : gm < ga ∧ ga < gb ∧ gb < gc ∧ gc < gx ∧ gx < gy ∧ gy < B := by omega
  have hit := fun N => round_give N bn br n r s t ok u6 h0 h1 (hT.below b6 hT.lt) hF (hbn.after b6) (hbr.after b6)
  have hwf := Lib.hid (fun (a : Nat) (ha : a ∈ pairsOf n t ok) => hall a ha)
  have hD0 := two_pos (t - 1)
  have hD1 := two_16 (show t - 1 ≤ 16 by omega)
  generalize hps : pairsOf n t ok = ps at *
  have HPS := Lib.hid hps
  have HPXA := Lib.hid (fun (pre : List Nat) (x : Nat) => show xsOf (pre ++ [x]) = xsOf pre ++ [(x : Int)] by simp [xsOf])
  have HPYA := Lib.hid (fun (pre : List Nat) (x : Nat) => show ysOf t (pre ++ [x]) = ysOf t pre ++ [(x : Int) + 2 ^ (t - 1)] by simp [ysOf])
  have HLXA := Lib.hid (fun (pre : List Nat) => show (xsOf pre).length = pre.length by simp [xsOf])
  have HLYA := Lib.hid (fun (pre : List Nat) => show (ysOf t pre).length = pre.length by simp [ysOf])
  have hb6 : B ≤ u6.heap.size := by omega
  rw [hgm, hga, hgb, hgc, hgx, hgy]
  clear hps hall hbn hbr hF hT q1 q2 q3 q4 q5 q6 g1 g2 g3 g4 g5 g6 z1 z2 z3 z4 z5 z6 qx hga hgb hgc hgx hgy
  refine (wpIn_wide (n := 3)).1 ?_
  refine wpIn_rangeFunc_give rfl (by omega) (gf := 20) (lb := #[.pointer (some ⟨bn, 0, none⟩), .pointer (some ⟨br, 0, none⟩)]) rfl trivial (enters_of Tryd.func20 (by kernel_rfl) rfl)
    (hit _) (fun h k => trivial) (fun W l o o' hl ho hc _ => trivial) (Below.refl _ _) (fun x B W args hx => by unfold EncP at hx; rw [hx]; rfl)
    (I2 w u6 B gx gy t) (by rw [hB]; exact I2.from _ _ _ _ _ _) i6
    (fun x a' pre W => I2 w u6 B gx gy t pre W ∧ a' = { tmps := #[.func (.func 20) #[] #[.pointer (some ⟨bn, 0, none⟩), .pointer (some ⟨br, 0, none⟩)], .int .i64 (most : Int), undef, .pointer (some ⟨gm, 0, none⟩), .pointer (some ⟨ga, 0, none⟩), .pointer (some ⟨gb, 0, none⟩), .pointer (some ⟨gc, 0, none⟩), .pointer (some ⟨gx, 0, none⟩), .pointer (some ⟨gy, 0, none⟩), .int .i64 (x : Int), .int .i64 ((x : Int) + 2 ^ (t - 1)), .func (.func 20) #[] #[.pointer (some ⟨bn, 0, none⟩), .pointer (some ⟨br, 0, none⟩)], .bool false, .func (.func 20) #[] #[.pointer (some ⟨bn, 0, none⟩), .pointer (some ⟨br, 0, none⟩)], .int .i64 (x : Int), .int .i64 ((x : Int) + 2 ^ (t - 1)), undef, undef, undef, undef, undef, undef, undef, undef, undef, undef, undef, undef, undef, undef], defers := [] }) ?ib ?assign ?body ?done
  case ib =>
    rintro x a' pre W W' row ⟨hi, h3⟩ hgr hrow
    rw [hB] at hrow
    exact ⟨I2.from _ _ _ _ _ _ pre W W' row hi hgr hrow, h3⟩
  case assign =>
    rintro l pre x args W0 W K hi hg rfl hpre hsz hK
    simp only [Held.zip_two, List.setIfInBounds_toArray, List.set_cons_zero, List.set_cons_succ]
    gi_wp2_with fail
    exact hK _ _ (KeepsOthers.refl _) trivial ⟨I2.from _ _ _ _ _ _ pre W0 W none hi hg (fun r e => by cases e), rfl⟩
  case body =>
    rintro l pre x a' W ⟨⟨vx, vy, H⟩, rfl⟩ hpre hsz
    have hx6 := hwf.out x (hpre.subset (by simp))
    have hlen := hpre.length_le
    rw [List.length_append] at hlen
    simp only [List.length_cons, List.length_nil] at hlen
    obtain ⟨m, hm0⟩ : ∃ m, pre.length = m := ⟨_, rfl⟩
    have HLX := Lib.hid ((HLXA.out pre).trans hm0)
    have HLY := Lib.hid ((HLYA.out pre).trans hm0)
    have HPX := Lib.hid (HPXA.out pre x)
    have HPY := Lib.hid (HPYA.out pre x)
    rw [hm0] at hlen
    obtain ⟨A1, c1, rfl, _⟩ := H.ox.form
    obtain ⟨A2, c2, rfl, _⟩ := H.oy.form
    rw [HLX.out, HLY.out] at H
    obtain ⟨D, hD⟩ : ∃ D : Int, 2 ^ (t - 1) = D := ⟨_, rfl⟩
    rw [hD] at HPY hD0 hD1
    rw [hD]
    have wf2 : ∀ z ∈ [(x : Int)], (Lit.int .i64 z).wf = true := by intro z hz; rw [List.mem_singleton] at hz; rw [hz]; exact wf_i64 (by omega) (by omega)
    have wf6 : ∀ z ∈ [(x : Int) + D], (Lit.int .i64 z).wf = true := by intro z hz; rw [List.mem_singleton] at hz; rw [hz]; exact wf_i64 (by omega) (by omega)
    have hgmB : gm < B := by omega
    have hgmx : gm ≠ gx := by omega
    have hgmy : gm ≠ gy := by omega
    have hgt : ¬ ((most : Int) < ((m + 1 : Nat) : Int)) := by omega
    clear hD hm0 hit hpre
    gi_wp2_with fail
    refine Held.wpIn_region_barR (r := some l) (s := 8) (T := fun X => X.heap[gx]? = some (.cells #[.slice A1 m c1] 25 (0, 0)) ∧ X.heap[gy]? = some (.cells #[.slice A2 m c2] 25 (0, 0))) rfl (by kernel_rfl) (by kernel_rfl) (by intro a w h; exact h) ?_
    change wpAnyB _ _ _ _ _ _ _ _ _ W.drew
    have K := Held.others_of_new (grown_of_below ((Below.refl W.heap.size W).drew) none)
    have H := H.after ((Below.refl W.heap.size W).drew)
    have T0 : W.drew.heap[gx]? = some (.cells #[.slice A1 m c1] 25 (0, 0)) ∧ W.drew.heap[gy]? = some (.cells #[.slice A2 m c2] 25 (0, 0)) := ⟨H.cx, H.cy⟩
    refine Held.takeB (v := .slice A1 m c1) 0 (some 16) [8] rfl rfl (by kernel_rfl) (by kernel_rfl) (by kernel_rfl) (by kernel_rfl) (fun _ _ _ h => h) rfl (Held.y_load rfl rfl (by kernel_rfl) (fun X hX => cell_of_one hX.1)) T0 ?_
    simp only [Act.put, Z1, Z2, Z3]
    refine Held.takeB (v := .int .i64 (x : Int)) 1 (some 17) [8] rfl rfl (by kernel_rfl) (by kernel_rfl) (by kernel_rfl) (by kernel_rfl) (fun _ _ _ h => h) rfl (Held.y_move rfl rfl) T0 ?_
    simp only [Act.put, Z1, Z2, Z3]
    refine Held.takeB (v := .slice A2 m c2) 4 (some 20) [8, 7] rfl rfl (by kernel_rfl) (by kernel_rfl) (by kernel_rfl) (by kernel_rfl) (fun _ _ _ h => h) rfl (Held.y_load rfl rfl (by kernel_rfl) (fun X hX => cell_of_one hX.2)) T0 ?_
    simp only [Act.put, Z1, Z2, Z3]
    refine Held.takeB (v := .int .i64 ((x : Int) + D)) 5 (some 21) [8, 7, 6] rfl rfl (by kernel_rfl) (by kernel_rfl) (by kernel_rfl) (by kernel_rfl) (fun _ _ _ h => h) rfl (Held.y_move rfl rfl) T0 ?_
    simp only [Act.put, Z1, Z2, Z3]
    refine Held.twoB 2 6 (by kernel_rfl) ?_ ?_
    · refine Held.op_build_Row 2 (some 18) 25 3 1 .i64 8 [(x : Int)] rfl rfl rfl rfl Tryd.underlying25 info_int (by simp [Act.eval]) rfl (by omega) (by omega) wf2 ?_
      intro p2 w1 r2 b1 q2
      have K := K.trans (Held.others_of_new (grown_of_below b1 none))
      have H := H.after b1
      refine ⟨fun _ => ⟨H.cx, H.cy⟩, ?_⟩
      simp only [Act.put, Z1, Z2, Z3]
      refine Held.twoB 3 6 (by kernel_rfl) ?_ ?_
      · refine op_append_three 3 (some 19) 25 rfl rfl rfl rfl B 3 .i64 8 Tryd.underlying25 info_int (.slice A1 m c1) (xsOf pre) rfl H.ox _ (some ⟨p2, 0, none⟩) 1 1 [(x : Int)] rfl (by have := r2.ints (n := 1) (by simp); simpa using this) (by rw [HLX.out]; omega) (by omega) H.sz ?_
        intro A3 n3 c3 w2 o3 g2 t3 l3
        have K := K.trans (others_own H.ox g2)
        have H := H.appX o3 g2 t3
        refine ⟨fun _ => ⟨H.cx, H.cy⟩, ?_⟩
        simp only [Act.put, Z1, Z2, Z3]
        refine Held.oneB 6 (by kernel_rfl) ?_
        refine Held.op_build_Row 6 (some 22) 25 3 1 .i64 8 [((x : Int) + D)] rfl rfl rfl rfl Tryd.underlying25 info_int (by simp [Act.eval]) rfl (by omega) (by omega) wf6 ?_
        intro p6 w3 r6 b3 q6
        have K := K.trans (Held.others_of_new (grown_of_below b3 none))
        have H := H.after b3
        refine ⟨fun _ => ⟨H.cx, H.cy⟩, ?_⟩
        simp only [Act.put, Z1, Z2, Z3]
        refine Held.oneB 7 (by kernel_rfl) ?_
        refine op_append_three 7 (some 23) 25 rfl rfl rfl rfl B 3 .i64 8 Tryd.underlying25 info_int (.slice A2 m c2) (ysOf t pre) rfl H.oy _ (some ⟨p6, 0, none⟩) 1 1 [((x : Int) + D)] rfl (by have := r6.ints (n := 1) (by simp); simpa using this) (by rw [HLY.out]; omega) (by omega) H.sz ?_
        intro A7 n7 c7 w4 o7 g4 t7 l7
        have K := K.trans (others_own H.oy g4)
        have H := H.appY o7 g4 t7
        refine ⟨fun _ => ⟨H.cx, H.cy⟩, ?_⟩
        simp only [Act.put, Z1, Z2, Z3]
        refine Held.oneB 8 (by kernel_rfl) ?_
        refine Held.op_store_box 8 none 25 gx 25 _ (.slice A3 n3 c3) rfl rfl rfl rfl rfl rfl H.cx (by kernel_rfl) rfl rfl ?_
        intro w5 l8 g5
        have K := K.trans (Held.others_of_grown H.cx g5)
        have H := H.putX l8 g5
        refine ⟨(fun h => by cases h.symm.trans (show _ = true by kernel_rfl)), ?_⟩
        simp only [Act.put]
        refine Held.oneB 9 (by kernel_rfl) ?_
        refine Held.op_store_box 9 none 25 gy 25 _ (.slice A7 n7 c7) rfl rfl rfl rfl rfl rfl H.cy (by kernel_rfl) rfl rfl ?_
        intro w6 l9 g6
        have K := K.trans (Held.others_of_grown H.cy g6)
        have H := H.putY l9 g6
        refine ⟨(fun h => by cases h.symm.trans (show _ = true by kernel_rfl)), ?_⟩
        simp only [Act.put]
        refine doneB (by kernel_rfl) ?_ _
        have e3 : n3 = m + 1 := by have := l3.out; rw [List.length_append, HLX.out] at this; simp at this; omega
        have e7 : n7 = m + 1 := by have := l7.out; rw [List.length_append, HLY.out] at this; simp at this; omega
        subst e3 e7
        have cx9 := cell_of_one H.cx
        have cm9 := cell_of_one ((H.low gm hgmB hgmx hgmy).trans qm)
        gi_wp2_with fail
        exact ⟨K, trivial, _, _, by rw [HPX.out, HPY.out]; exact H⟩
      · refine Held.op_build_Row 6 (some 22) 25 3 1 .i64 8 [((x : Int) + D)] rfl rfl rfl rfl Tryd.underlying25 info_int (by simp [Act.eval]) rfl (by omega) (by omega) wf6 ?_
        intro p6 w2 r6 b2 q6
        have ne6 := Held.apart_new H.ox q6.out
        have K := K.trans (Held.others_of_new (grown_of_below b2 none))
        have H := H.after b2
        have r2 := r2.below b2 r2.lt
        refine ⟨fun _ => ⟨H.cx, H.cy⟩, ?_⟩
        simp only [Act.put, Z1, Z2, Z3]
        refine Held.oneB 3 (by kernel_rfl) ?_
        refine op_append_three 3 (some 19) 25 rfl rfl rfl rfl B 3 .i64 8 Tryd.underlying25 info_int (.slice A1 m c1) (xsOf pre) rfl H.ox _ (some ⟨p2, 0, none⟩) 1 1 [(x : Int)] rfl (by have := r2.ints (n := 1) (by simp); simpa using this) (by rw [HLX.out]; omega) (by omega) H.sz ?_
        intro A3 n3 c3 w3 o3 g3 t3 l3
        have K := K.trans (others_own H.ox g3)
        have r6 := r6.grown g3 ne6
        have H := H.appX o3 g3 t3
        refine ⟨fun _ => ⟨H.cx, H.cy⟩, ?_⟩
        simp only [Act.put, Z1, Z2, Z3]
        refine Held.oneB 7 (by kernel_rfl) ?_
        refine op_append_three 7 (some 23) 25 rfl rfl rfl rfl B 3 .i64 8 Tryd.underlying25 info_int (.slice A2 m c2) (ysOf t pre) rfl H.oy _ (some ⟨p6, 0, none⟩) 1 1 [((x : Int) + D)] rfl (by have := r6.ints (n := 1) (by simp); simpa using this) (by rw [HLY.out]; omega) (by omega) H.sz ?_
        intro A7 n7 c7 w4 o7 g4 t7 l7
        have K := K.trans (others_own H.oy g4)
        have H := H.appY o7 g4 t7
        refine ⟨fun _ => ⟨H.cx, H.cy⟩, ?_⟩
        simp only [Act.put, Z1, Z2, Z3]
        refine Held.oneB 8 (by kernel_rfl) ?_
        refine Held.op_store_box 8 none 25 gx 25 _ (.slice A3 n3 c3) rfl rfl rfl rfl rfl rfl H.cx (by kernel_rfl) rfl rfl ?_
        intro w5 l8 g5
        have K := K.trans (Held.others_of_grown H.cx g5)
        have H := H.putX l8 g5
        refine ⟨(fun h => by cases h.symm.trans (show _ = true by kernel_rfl)), ?_⟩
        simp only [Act.put]
        refine Held.oneB 9 (by kernel_rfl) ?_
        refine Held.op_store_box 9 none 25 gy 25 _ (.slice A7 n7 c7) rfl rfl rfl rfl rfl rfl H.cy (by kernel_rfl) rfl rfl ?_
        intro w6 l9 g6
        have K := K.trans (Held.others_of_grown H.cy g6)
        have H := H.putY l9 g6
        refine ⟨(fun h => by cases h.symm.trans (show _ = true by kernel_rfl)), ?_⟩
        simp only [Act.put]
        refine doneB (by kernel_rfl) ?_ _
        have e3 : n3 = m + 1 := by have := l3.out; rw [List.length_append, HLX.out] at this; simp at this; omega
        have e7 : n7 = m + 1 := by have := l7.out; rw [List.length_append, HLY.out] at this; simp at this; omega
        subst e3 e7
        have cx9 := cell_of_one H.cx
        have cm9 := cell_of_one ((H.low gm hgmB hgmx hgmy).trans qm)
        gi_wp2_with fail
        exact ⟨K, trivial, _, _, by rw [HPX.out, HPY.out]; exact H⟩
    · refine Held.op_build_Row 6 (some 22) 25 3 1 .i64 8 [((x : Int) + D)] rfl rfl rfl rfl Tryd.underlying25 info_int (by simp [Act.eval]) rfl (by omega) (by omega) wf6 ?_
      intro p6 w1 r6 b1 q6
      have ne6 := Held.apart_new H.ox q6.out
      have K := K.trans (Held.others_of_new (grown_of_below b1 none))
      have H := H.after b1
      refine ⟨fun _ => ⟨H.cx, H.cy⟩, ?_⟩
      simp only [Act.put, Z1, Z2, Z3]
      refine Held.oneB 2 (by kernel_rfl) ?_
      refine Held.op_build_Row 2 (some 18) 25 3 1 .i64 8 [(x : Int)] rfl rfl rfl rfl Tryd.underlying25 info_int (by simp [Act.eval]) rfl (by omega) (by omega) wf2 ?_
      intro p2 w2 r2 b2 q2
      have K := K.trans (Held.others_of_new (grown_of_below b2 none))
      have H := H.after b2
      have r6 := r6.below b2 r6.lt
      refine ⟨fun _ => ⟨H.cx, H.cy⟩, ?_⟩
      simp only [Act.put, Z1, Z2, Z3]
      refine Held.oneB 3 (by kernel_rfl) ?_
      refine op_append_three 3 (some 19) 25 rfl rfl rfl rfl B 3 .i64 8 Tryd.underlying25 info_int (.slice A1 m c1) (xsOf pre) rfl H.ox _ (some ⟨p2, 0, none⟩) 1 1 [(x : Int)] rfl (by have := r2.ints (n := 1) (by simp); simpa using this) (by rw [HLX.out]; omega) (by omega) H.sz ?_
      intro A3 n3 c3 w3 o3 g3 t3 l3
      have K := K.trans (others_own H.ox g3)
      have r6 := r6.grown g3 ne6
      have H := H.appX o3 g3 t3
      refine ⟨fun _ => ⟨H.cx, H.cy⟩, ?_⟩
      simp only [Act.put, Z1, Z2, Z3]
      refine Held.oneB 7 (by kernel_rfl) ?_
      refine op_append_three 7 (some 23) 25 rfl rfl rfl rfl B 3 .i64 8 Tryd.underlying25 info_int (.slice A2 m c2) (ysOf t pre) rfl H.oy _ (some ⟨p6, 0, none⟩) 1 1 [((x : Int) + D)] rfl (by have := r6.ints (n := 1) (by simp); simpa using this) (by rw [HLY.out]; omega) (by omega) H.sz ?_
      intro A7 n7 c7 w4 o7 g4 t7 l7
      have K := K.trans (others_own H.oy g4)
      have H := H.appY o7 g4 t7
      refine ⟨fun _ => ⟨H.cx, H.cy⟩, ?_⟩
      simp only [Act.put, Z1, Z2, Z3]
      refine Held.oneB 8 (by kernel_rfl) ?_
      refine Held.op_store_box 8 none 25 gx 25 _ (.slice A3 n3 c3) rfl rfl rfl rfl rfl rfl H.cx (by kernel_rfl) rfl rfl ?_
      intro w5 l8 g5
      have K := K.trans (Held.others_of_grown H.cx g5)
      have H := H.putX l8 g5
      refine ⟨(fun h => by cases h.symm.trans (show _ = true by kernel_rfl)), ?_⟩
      simp only [Act.put]
      refine Held.oneB 9 (by kernel_rfl) ?_
      refine Held.op_store_box 9 none 25 gy 25 _ (.slice A7 n7 c7) rfl rfl rfl rfl rfl rfl H.cy (by kernel_rfl) rfl rfl ?_
      intro w6 l9 g6
      have K := K.trans (Held.others_of_grown H.cy g6)
      have H := H.putY l9 g6
      refine ⟨(fun h => by cases h.symm.trans (show _ = true by kernel_rfl)), ?_⟩
      simp only [Act.put]
      refine doneB (by kernel_rfl) ?_ _
      have e3 : n3 = m + 1 := by have := l3.out; rw [List.length_append, HLX.out] at this; simp at this; omega
      have e7 : n7 = m + 1 := by have := l7.out; rw [List.length_append, HLY.out] at this; simp at this; omega
      subst e3 e7
      have cx9 := cell_of_one H.cx
      have cm9 := cell_of_one ((H.low gm hgmB hgmx hgmy).trans qm)
      gi_wp2_with fail
      exact ⟨K, trivial, _, _, by rw [HPX.out, HPY.out]; exact H⟩
  case done =>
    rintro Dd W hDd ⟨vx, vy, H⟩ hDl
    obtain ⟨m, hm0⟩ : ∃ m, ps.length = m := ⟨_, rfl⟩
    have HLX := Lib.hid ((HLXA.out ps).trans hm0)
    have HLY := Lib.hid ((HLYA.out ps).trans hm0)
    obtain ⟨A1, c1, rfl, _⟩ := H.ox.form
    obtain ⟨A2, c2, rfl, _⟩ := H.oy.form
    rw [HLX.out, HLY.out] at H
    have HM0 := Lib.hid hm0
    have ra := (H.low ga (by omega) (by omega) (by omega)).trans qa
    have rb := (H.low gb (by omega) (by omega) (by omega)).trans qb
    have rc := (H.low gc (by omega) (by omega) (by omega)).trans qc
    have hDB : B ≤ Dd := by omega
    clear hm0 hit
    go_wp2_with fail
    refine wp_region_held (S := fun _ => True) (by kernel_rfl) ?_
    change wpAnyH _ _ _ _ _ _ _ _ W.drew
    have H := H.after ((Below.refl W.heap.size W).drew)
    have ra : W.drew.heap[ga]? = _ := ra
    have rb : W.drew.heap[gb]? = _ := rb
    have rc : W.drew.heap[gc]? = _ := rc
    have hDl : W.drew.heap[Dd]? = _ := hDl
    generalize W.drew = W at *
    refine Held.two 0 1 (by kernel_rfl) ?_ ?_
    · refine Held.op_load 0 (some 28) 25 ⟨gx, 0, none⟩ (.slice A1 m c1) rfl rfl rfl rfl rfl (Held.run_loadVar_cell _ _ _ _ (by kernel_rfl) (cell_of_one H.cx)) ?_
      refine ⟨trivial, ?_⟩
      simp only [Act.put, Z1, Z2, Z3]
      refine Held.two 1 2 (by kernel_rfl) ?_ ?_
      · refine Held.op_load 1 (some 29) 25 ⟨gy, 0, none⟩ (.slice A2 m c2) rfl rfl rfl rfl rfl (Held.run_loadVar_cell _ _ _ _ (by kernel_rfl) (cell_of_one H.cy)) ?_
        refine ⟨trivial, ?_⟩
        simp only [Act.put, Z1, Z2, Z3]
        refine Held.one 2 (by kernel_rfl) ?_
        refine Held.op_store_box 2 none 25 ga 25 _ (.slice A1 m c1) rfl rfl rfl rfl rfl rfl ra (by kernel_rfl) rfl rfl ?_
        intro w1 l1 g1
        refine ⟨trivial, ?_⟩
        simp only [Act.put]
        have rb1 := Held.keep_cells rb g1 (by intro e; injection e with e; omega)
        have rc1 := Held.keep_cells rc g1 (by intro e; injection e with e; omega)
        refine Held.one 3 (by kernel_rfl) ?_
        refine Held.op_store_box 3 none 25 gb 25 _ (.slice A2 m c2) rfl rfl rfl rfl rfl rfl rb1 (by kernel_rfl) rfl rfl ?_
        intro w2 l2 g2
        refine ⟨trivial, ?_⟩
        simp only [Act.put]
        have rc2 := Held.keep_cells rc1 g2 (by intro e; injection e with e; omega)
        have la2 := Held.keep_cells l1 g2 (by intro e; injection e with e; omega)
        refine Held.one 4 (by kernel_rfl) ?_
        refine Held.op_store_box 4 none 4 gc 4 _ (.bool true) rfl rfl rfl rfl rfl rfl rc2 (by kernel_rfl) rfl rfl ?_
        intro w3 l3 g3
        refine ⟨trivial, ?_⟩
        simp only [Act.put]
        have la3 := Held.keep_cells la2 g3 (by intro e; injection e with e; omega)
        have lb3 := Held.keep_cells l2 g3 (by intro e; injection e with e; omega)
        refine wpAnyH_done (by kernel_rfl) ?_ _
        go_wp2_with fail
        have hD1 : w1.heap[Dd]? = some (.deferred (some [])) := (g1.block Dd (by have := (Array.getElem?_eq_some_iff.1 hDl).1; exact this) (by intro e; injection e with e; omega)).trans hDl
        have hD2 : w2.heap[Dd]? = some (.deferred (some [])) := (g2.block Dd (Array.getElem?_eq_some_iff.1 hD1).1 (by intro e; injection e with e; omega)).trans hD1
        have hD3 : w3.heap[Dd]? = some (.deferred (some [])) := (g3.block Dd (Array.getElem?_eq_some_iff.1 hD2).1 (by intro e; injection e with e; omega)).trans hD2
        have gD := grownBy_putObj' w3 Dd (.deferred none)
        have nD : ∀ b : Nat, b < B → some b ≠ some Dd := fun b hb e => by injection e with e; omega
        have nX : ∀ b : Nat, b < B → (Value.slice A1 m c1).ownBlock ≠ some b := fun b hb e => by have := (H.ox.2.lt b e).1; omega
        have nY : ∀ b : Nat, b < B → (Value.slice A2 m c2).ownBlock ≠ some b := fun b hb e => by have := (H.oy.2.lt b e).1; omega
        have ox3 := ((H.ox.kept g1 (.inr (nX ga (by omega)))).kept g2 (.inr (nX gb (by omega)))).kept g3 (.inr (nX gc (by omega)))
        have oy3 := ((H.oy.kept g1 (.inr (nY ga (by omega)))).kept g2 (.inr (nY gb (by omega)))).kept g3 (.inr (nY gc (by omega)))
        have nd : ∀ r, some Dd = some r → ∃ o : Obj, w3.heap[r]? = some o ∧ o.isCells = false := fun r e => by cases e; exact ⟨_, hD3, rfl⟩
        have ox4 := ox3.kept gD (own_ne ox3 nd)
        have oy4 := oy3.kept gD (own_ne oy3 nd)
        have la4 := Held.keep_cells la3 gD (nD ga (by omega))
        have lb4 := Held.keep_cells lb3 gD (nD gb (by omega))
        have lc4 := Held.keep_cells l3 gD (nD gc (by omega))
        have hw1 := g1.size
        have hw2 := g2.size
        have hw3 := g3.size
        have hsz := H.sz
        have bW : Below w.heap.size w W := H.bel
        have bl := (((bW.grown g1 (by omega) (fun r e => by cases e; omega)).grown g2 (by omega) (fun r e => by cases e; omega)).grown g3 (by omega) (fun r e => by cases e; omega)).grown gD (by omega) (fun r e => by cases e; omega)
        refine ⟨by simp, .inl ⟨_, _, rfl, run_takeDeferred hD3, ?_⟩⟩
        exact ⟨_, results_three rfl _ _ ga gb gc _ _ _ rfl rfl rfl (by kernel_rfl) (by kernel_rfl) (by kernel_rfl) (cell_of_one la4) (cell_of_one lb4) (cell_of_one lc4), A1, c1, A2, c2, by rw [HPS.out, HM0.out], by rw [HPS.out, HM0.out]; exact ox4.less (by omega), by rw [HPS.out, HM0.out]; exact oy4.less (by omega), bl⟩
      · refine Held.op_store_box 2 none 25 ga 25 _ (.slice A1 m c1) rfl rfl rfl rfl rfl rfl ra (by kernel_rfl) rfl rfl ?_
        intro w1 l1 g1
        refine ⟨trivial, ?_⟩
        simp only [Act.put]
        have rb1 := Held.keep_cells rb g1 (by intro e; injection e with e; omega)
        have rc1 := Held.keep_cells rc g1 (by intro e; injection e with e; omega)
        refine Held.one 1 (by kernel_rfl) ?_
        refine Held.op_load 1 (some 29) 25 ⟨gy, 0, none⟩ (.slice A2 m c2) rfl rfl rfl rfl rfl (Held.run_loadVar_cell _ _ _ _ (by kernel_rfl) (cell_of_one (Held.keep_cells H.cy g1 (by intro e; injection e with e; have := H.lx; have := H.ly; omega)))) ?_
        refine ⟨trivial, ?_⟩
        simp only [Act.put, Z1, Z2, Z3]
        refine Held.one 3 (by kernel_rfl) ?_
        refine Held.op_store_box 3 none 25 gb 25 _ (.slice A2 m c2) rfl rfl rfl rfl rfl rfl rb1 (by kernel_rfl) rfl rfl ?_
        intro w2 l2 g2
        refine ⟨trivial, ?_⟩
        simp only [Act.put]
        have rc2 := Held.keep_cells rc1 g2 (by intro e; injection e with e; omega)
        have la2 := Held.keep_cells l1 g2 (by intro e; injection e with e; omega)
        refine Held.one 4 (by kernel_rfl) ?_
        refine Held.op_store_box 4 none 4 gc 4 _ (.bool true) rfl rfl rfl rfl rfl rfl rc2 (by kernel_rfl) rfl rfl ?_
        intro w3 l3 g3
        refine ⟨trivial, ?_⟩
        simp only [Act.put]
        have la3 := Held.keep_cells la2 g3 (by intro e; injection e with e; omega)
        have lb3 := Held.keep_cells l2 g3 (by intro e; injection e with e; omega)
        refine wpAnyH_done (by kernel_rfl) ?_ _
        go_wp2_with fail
        have hD1 : w1.heap[Dd]? = some (.deferred (some [])) := (g1.block Dd (by have := (Array.getElem?_eq_some_iff.1 hDl).1; exact this) (by intro e; injection e with e; omega)).trans hDl
        have hD2 : w2.heap[Dd]? = some (.deferred (some [])) := (g2.block Dd (Array.getElem?_eq_some_iff.1 hD1).1 (by intro e; injection e with e; omega)).trans hD1
        have hD3 : w3.heap[Dd]? = some (.deferred (some [])) := (g3.block Dd (Array.getElem?_eq_some_iff.1 hD2).1 (by intro e; injection e with e; omega)).trans hD2
        have gD := grownBy_putObj' w3 Dd (.deferred none)
        have nD : ∀ b : Nat, b < B → some b ≠ some Dd := fun b hb e => by injection e with e; omega
        have nX : ∀ b : Nat, b < B → (Value.slice A1 m c1).ownBlock ≠ some b := fun b hb e => by have := (H.ox.2.lt b e).1; omega
        have nY : ∀ b : Nat, b < B → (Value.slice A2 m c2).ownBlock ≠ some b := fun b hb e => by have := (H.oy.2.lt b e).1; omega
        have ox3 := ((H.ox.kept g1 (.inr (nX ga (by omega)))).kept g2 (.inr (nX gb (by omega)))).kept g3 (.inr (nX gc (by omega)))
        have oy3 := ((H.oy.kept g1 (.inr (nY ga (by omega)))).kept g2 (.inr (nY gb (by omega)))).kept g3 (.inr (nY gc (by omega)))
        have nd : ∀ r, some Dd = some r → ∃ o : Obj, w3.heap[r]? = some o ∧ o.isCells = false := fun r e => by cases e; exact ⟨_, hD3, rfl⟩
        have ox4 := ox3.kept gD (own_ne ox3 nd)
        have oy4 := oy3.kept gD (own_ne oy3 nd)
        have la4 := Held.keep_cells la3 gD (nD ga (by omega))
        have lb4 := Held.keep_cells lb3 gD (nD gb (by omega))
        have lc4 := Held.keep_cells l3 gD (nD gc (by omega))
        have hw1 := g1.size
        have hw2 := g2.size
        have hw3 := g3.size
        have hsz := H.sz
        have bW : Below w.heap.size w W := H.bel
        have bl := (((bW.grown g1 (by omega) (fun r e => by cases e; omega)).grown g2 (by omega) (fun r e => by cases e; omega)).grown g3 (by omega) (fun r e => by cases e; omega)).grown gD (by omega) (fun r e => by cases e; omega)
        refine ⟨by simp, .inl ⟨_, _, rfl, run_takeDeferred hD3, ?_⟩⟩
        exact ⟨_, results_three rfl _ _ ga gb gc _ _ _ rfl rfl rfl (by kernel_rfl) (by kernel_rfl) (by kernel_rfl) (cell_of_one la4) (cell_of_one lb4) (cell_of_one lc4), A1, c1, A2, c2, by rw [HPS.out, HM0.out], by rw [HPS.out, HM0.out]; exact ox4.less (by omega), by rw [HPS.out, HM0.out]; exact oy4.less (by omega), bl⟩
    · refine Held.op_load 1 (some 29) 25 ⟨gy, 0, none⟩ (.slice A2 m c2) rfl rfl rfl rfl rfl (Held.run_loadVar_cell _ _ _ _ (by kernel_rfl) (cell_of_one H.cy)) ?_
      refine ⟨trivial, ?_⟩
      simp only [Act.put, Z1, Z2, Z3]
      refine Held.one 0 (by kernel_rfl) ?_
      refine Held.op_load 0 (some 28) 25 ⟨gx, 0, none⟩ (.slice A1 m c1) rfl rfl rfl rfl rfl (Held.run_loadVar_cell _ _ _ _ (by kernel_rfl) (cell_of_one H.cx)) ?_
      refine ⟨trivial, ?_⟩
      simp only [Act.put, Z1, Z2, Z3]
      refine Held.one 2 (by kernel_rfl) ?_
      refine Held.op_store_box 2 none 25 ga 25 _ (.slice A1 m c1) rfl rfl rfl rfl rfl rfl ra (by kernel_rfl) rfl rfl ?_
      intro w1 l1 g1
      refine ⟨trivial, ?_⟩
      simp only [Act.put]
      have rb1 := Held.keep_cells rb g1 (by intro e; injection e with e; omega)
      have rc1 := Held.keep_cells rc g1 (by intro e; injection e with e; omega)
      refine Held.one 3 (by kernel_rfl) ?_
      refine Held.op_store_box 3 none 25 gb 25 _ (.slice A2 m c2) rfl rfl rfl rfl rfl rfl rb1 (by kernel_rfl) rfl rfl ?_
      intro w2 l2 g2
      refine ⟨trivial, ?_⟩
      simp only [Act.put]
      have rc2 := Held.keep_cells rc1 g2 (by intro e; injection e with e; omega)
      have la2 := Held.keep_cells l1 g2 (by intro e; injection e with e; omega)
      refine Held.one 4 (by kernel_rfl) ?_
      refine Held.op_store_box 4 none 4 gc 4 _ (.bool true) rfl rfl rfl rfl rfl rfl rc2 (by kernel_rfl) rfl rfl ?_
      intro w3 l3 g3
      refine ⟨trivial, ?_⟩
      simp only [Act.put]
      have la3 := Held.keep_cells la2 g3 (by intro e; injection e with e; omega)
      have lb3 := Held.keep_cells l2 g3 (by intro e; injection e with e; omega)
      refine wpAnyH_done (by kernel_rfl) ?_ _
      go_wp2_with fail
      have hD1 : w1.heap[Dd]? = some (.deferred (some [])) := (g1.block Dd (by have := (Array.getElem?_eq_some_iff.1 hDl).1; exact this) (by intro e; injection e with e; omega)).trans hDl
      have hD2 : w2.heap[Dd]? = some (.deferred (some [])) := (g2.block Dd (Array.getElem?_eq_some_iff.1 hD1).1 (by intro e; injection e with e; omega)).trans hD1
      have hD3 : w3.heap[Dd]? = some (.deferred (some [])) := (g3.block Dd (Array.getElem?_eq_some_iff.1 hD2).1 (by intro e; injection e with e; omega)).trans hD2
      have gD := grownBy_putObj' w3 Dd (.deferred none)
      have nD : ∀ b : Nat, b < B → some b ≠ some Dd := fun b hb e => by injection e with e; omega
      have nX : ∀ b : Nat, b < B → (Value.slice A1 m c1).ownBlock ≠ some b := fun b hb e => by have := (H.ox.2.lt b e).1; omega
      have nY : ∀ b : Nat, b < B → (Value.slice A2 m c2).ownBlock ≠ some b := fun b hb e => by have := (H.oy.2.lt b e).1; omega
      have ox3 := ((H.ox.kept g1 (.inr (nX ga (by omega)))).kept g2 (.inr (nX gb (by omega)))).kept g3 (.inr (nX gc (by omega)))
      have oy3 := ((H.oy.kept g1 (.inr (nY ga (by omega)))).kept g2 (.inr (nY gb (by omega)))).kept g3 (.inr (nY gc (by omega)))
      have nd : ∀ r, some Dd = some r → ∃ o : Obj, w3.heap[r]? = some o ∧ o.isCells = false := fun r e => by cases e; exact ⟨_, hD3, rfl⟩
      have ox4 := ox3.kept gD (own_ne ox3 nd)
      have oy4 := oy3.kept gD (own_ne oy3 nd)
      have la4 := Held.keep_cells la3 gD (nD ga (by omega))
      have lb4 := Held.keep_cells lb3 gD (nD gb (by omega))
      have lc4 := Held.keep_cells l3 gD (nD gc (by omega))
      have hw1 := g1.size
      have hw2 := g2.size
      have hw3 := g3.size
      have hsz := H.sz
      have bW : Below w.heap.size w W := H.bel
      have bl := (((bW.grown g1 (by omega) (fun r e => by cases e; omega)).grown g2 (by omega) (fun r e => by cases e; omega)).grown g3 (by omega) (fun r e => by cases e; omega)).grown gD (by omega) (fun r e => by cases e; omega)
      refine ⟨by simp, .inl ⟨_, _, rfl, run_takeDeferred hD3, ?_⟩⟩
      exact ⟨_, results_three rfl _ _ ga gb gc _ _ _ rfl rfl rfl (by kernel_rfl) (by kernel_rfl) (by kernel_rfl) (cell_of_one la4) (cell_of_one lb4) (cell_of_one lc4), A1, c1, A2, c2, by rw [HPS.out, HM0.out], by rw [HPS.out, HM0.out]; exact ox4.less (by omega), by rw [HPS.out, HM0.out]; exact oy4.less (by omega), bl⟩
theorem seq2_any (bn br most : Nat) (n r : Int) (s t : Nat) (ok : Bool) (w : World) (h0 : -9223372036854775808 ≤ n) (h1 : n ≤ 9223372036854775807) (hT : TzT w) (hF : Found (stg n) r s t ok)
    (hbn : Blk w bn 3 #[.int .i64 n]) (hbr : Blk w br 3 #[.int .i64 r]) (hm : (pairsOf n t ok).length ≤ most) (hm2 : most ≤ 70000) (hall : ∀ a ∈ pairsOf n t ok, a ≤ 65536) (ht : t ≤ 16) :
    Calls Tryd.prog 9 #[.func (.func 20) #[] #[.pointer (some ⟨bn, 0, none⟩), .pointer (some ⟨br, 0, none⟩)], .int .i64 (most : Int)] w fun e w' =>
      ∃ A1 c1 A2 c2, e = .returned (.tuple #[.slice A1 (pairsOf n t ok).length c1, .slice A2 (pairsOf n t ok).length c2, .bool true]) ∧ Ints w' .i64 w'.heap.size A1 (pairsOf n t ok).length (xsOf (pairsOf n t ok)) ∧ Ints w' .i64 w'.heap.size A2 (pairsOf n t ok).length (ysOf t (pairsOf n t ok)) ∧ Below w.heap.size w w' :=
  (seq2_own bn br most n r s t ok w h0 h1 hT hF hbn hbr hm hm2 hall ht).mono fun e w' ⟨A1, c1, A2, c2, h1, h2, h3, h4⟩ => ⟨A1, c1, A2, c2, h1, h2.ints (by simp [xsOf]), h3.ints (by simp [ysOf]), h4⟩
end Go.Proofs.YtagcnbcmegdgmaaDoor.Bi
namespace Go.Proofs.YtagcnbcmegdgmaaDoor.Bi
open Go.RowKit Go.Shelf Go.Proofs.YtagcnbcmegdgmaaDoor Mem Held Help Go.Proofs.YtagcnbcmegdgmaaDoor.Range
attribute [local go_sem] Oper.semAt_some
attribute [local irreducible] wpList wpListIn Calls
theorem eqi_any (x y : Int) (w : World) : Calls Tryd.prog 28 #[.int .i64 x, .int .i64 y] w fun e w' => e = .returned (.bool (x == y)) ∧ w = w' := by
  go_enter Tryd.func28, Tryd.ntmps28
  go_wp2
  go_ret
  exact ⟨rfl, rfl⟩
theorem samei_any (B B' : Nat) (A A' : Option Addr) (n n' c c' : Nat) (zs zs' : List Int) (w : World) (h : Ints w .i64 B A n zs) (h' : Ints w .i64 B' A' n' zs') (hn : n ≤ 17592186044416) (hn' : n' ≤ 17592186044416) :
    Calls Tryd.prog 27 #[.slice A n c, .slice A' n' c', .func (Fn.func 28) #[] #[]] w fun e w' => e = .returned (.bool (decide (zs = zs'))) ∧ Still w w' := by
  by_cases hnn : n = n'
  · subst hnn
    have hne : ((n : Int) != (n : Int)) = false := by simp
    have HL := Lib.hid h.1
    have HL' := Lib.hid h'.1
    go_enter Tryd.func27, Tryd.ntmps27
    go_wp2_with fail
    go_loopw [7] (fun i wr => ∃ k : Nat, k ≤ n ∧ i = .int .i64 k ∧ Still w wr ∧ Hid (zs.take k = zs'.take k)) (fun i _ => n - (intOf i).toNat)
    case atStart => exact ⟨0, by omega, rfl, Still.refl _, Lib.hid rfl⟩
    case round =>
      obtain ⟨k, hk, rfl, hst, ht⟩ := hrel
      by_cases hlt : k < n
      · obtain ⟨b, off, rfl, hb, hc⟩ := (hst.ints h).at_ hlt
        obtain ⟨b', off', rfl, hb', hc'⟩ := (hst.ints h').at_ hlt
        have hlt' : (k : Int) < (n : Int) := by omega
        have hk0 : (0 : Int) ≤ (k : Int) := by omega
        by_cases hq : zs.getD k 0 = zs'.getD k 0
        · have HT := Lib.hid (Help.take_step (by have := HL.out; omega) (by have := HL'.out; omega) ht.out hq)
          have q : (zs.getD k 0 == zs'.getD k 0) = true := by simpa using hq
          clear hq
          generalize zs.getD k 0 = x at hc q
          generalize zs'.getD k 0 = y at hc' q
          go_wp2_with fail
          go_quiet ((go_at_call 28; exact quiet_same (eqi_any _ _ _)))
          go_wp2_with fail
          go_roundw
          case rel => exact ⟨k + 1, by omega, by go_num, hst.drewN _, HT⟩
          case measure => simp [intOf]; omega
        · have HF := Lib.hid (show decide (zs = zs') = false by
            rw [decide_eq_false_iff_not]; intro e; exact hq (by rw [e]))
          have q : (zs.getD k 0 == zs'.getD k 0) = false := by simpa using hq
          clear hq
          generalize zs.getD k 0 = x at hc q
          generalize zs'.getD k 0 = y at hc' q
          go_wp2_with fail
          go_quiet ((go_at_call 28; exact quiet_same (eqi_any _ _ _)))
          go_wp2_with fail
          go_ret
          exact ⟨Mem.ret_bool HF.out.symm, hst.drewN _⟩
      · have HF := Lib.hid (show decide (zs = zs') = true by
          have e1 := ht.out
          rw [List.take_of_length_le (by have := HL.out; omega), List.take_of_length_le (by have := HL'.out; omega)] at e1
          simpa using e1)
        go_wp2_with fail
        go_ret
        exact ⟨Mem.ret_bool HF.out.symm, hst⟩
  · have hne : ((n : Int) != (n' : Int)) = true := by simp; omega
    have HF := Lib.hid (show decide (zs = zs') = false by
      rw [decide_eq_false_iff_not]; intro e; exact hnn (by rw [← h.1, ← h'.1, e]))
    clear h h' hnn
    go_enter Tryd.func27, Tryd.ntmps27
    go_wp2_with fail
    go_ret
    exact ⟨Mem.ret_bool HF.out.symm, Still.refl _⟩
theorem plaini_any (B B' : Nat) (A A' : Option Addr) (n n' c c' : Nat) (zs zs' : List Int) (w : World) (h : Ints w .i64 B A n zs) (h' : Ints w .i64 B' A' n' zs') (hn : n ≤ 17592186044416) (hn' : n' ≤ 17592186044416) :
    Calls Tryd.prog 16 #[.slice A n c, .slice A' n' c'] w fun e w' => e = .returned (.bool (decide (zs = zs'))) ∧ Still w w' := by
  go_enter Tryd.func16, Tryd.ntmps16
  go_wp2_with fail
  refine (samei_any B B' A A' n n' c c' zs zs' _ h h' hn hn').mono ?_
  rintro e w' ⟨rfl, hst⟩
  go_wp2_with fail
  go_ret
  exact ⟨rfl, hst⟩
set_option maxRecDepth 100000 in
set_option maxHeartbeats 2000000 in
theorem rpadded_any (n : Int) (w : World) (h0 : -9223372036854775808 ≤ n) (h1 : n ≤ 9223372036854775807) :
    Calls Tryd.prog 15 #[.int .i64 n] w fun e w' => e = .returned (.int .i64 (padV n)) ∧ w = w' := by
  obtain ⟨m, hm⟩ : ∃ m, min n 65536 = m := ⟨_, rfl⟩
  have hmin : (if (65536 : Int) < n then 65536 else n) = m := by split <;> omega
  have hm2 : m ≤ 65536 := by omega
  have HM := Lib.hid hm
  clear hm
  go_enter Tryd.func15, Tryd.ntmps15
  go_wp2_with (refine Held.wpList_run (w := w) rfl (v := .int .i64 m) (Held.y_min (S := fun _ => True) rfl rfl rfl hmin _ trivial) ?_)
  clear hmin
  go_loopw [3] (fun v wr => ∃ (k : Nat) (p : Int), v = .int .i64 p ∧ Hid (p = 2 ^ k) ∧ k ≤ 16 ∧ Hid (padF (16 - k) k n = padS n) ∧ w = wr) (fun v _ => (70000 - intOf v).toNat)
  case atStart => exact ⟨0, 1, rfl, Lib.hid (by simp), by omega, Lib.hid rfl, rfl⟩
  case round =>
    obtain ⟨k, p, rfl, hp, hk, hf, rfl⟩ := hrel
    have p1 : 1 ≤ p := by rw [hp.out]; exact two_pos k
    have p2 : p ≤ 65536 := by rw [hp.out]; exact two_16 hk
    by_cases c1 : p < m
    · have k16 : k < 16 := by
        rcases Nat.lt_or_ge k 16 with c | c
        · exact c
        · have : k = 16 := by omega
          have := hp.out
          subst k
          omega
      have HN := Lib.hid (show padF (16 - (k + 1)) (k + 1) n = padS n by
        have := HM.out
        rw [← hf.out, show 16 - k = (16 - (k + 1)) + 1 by omega]
        rw [hp.out] at c1
        conv => rhs; rw [padF, if_pos (show (2 : Int) ^ k < n by omega)])
      have HP := Lib.hid (show 2 * p = 2 ^ (k + 1) by rw [hp.out, two_succ])
      go_wp2_with fail
      go_roundw
      case rel => exact ⟨k + 1, 2 * p, by go_num, HP, by omega, HN, trivial⟩
      case measure => simp [intOf]; omega
    · have HN := Lib.hid (show p = padV n by
        have h1 := hf.out
        have h2 := HM.out
        unfold padV
        rw [← h1, hp.out]
        rw [hp.out] at c1
        cases hq : 16 - k with
        | zero => rfl
        | succ q =>
          have h3 := two_mono (show k ≤ 15 by omega)
          rw [show (2 : Int) ^ 15 = 32768 by decide] at h3
          rw [padF, if_neg (show ¬ (2 : Int) ^ k < n by omega)])
      go_wp2_with fail
      go_ret
      exact ⟨by rw [HN.out]; rfl, rfl⟩
def powV (n : Int) : Int := if padV n = n then (stg n : Int) else -1
set_option maxRecDepth 100000 in
set_option maxHeartbeats 2000000 in
theorem power_any (n : Int) (w : World) (h0 : -9223372036854775808 ≤ n) (h1 : n ≤ 9223372036854775807) :
    Calls Tryd.prog 26 #[.int .i64 n] w fun e w' => e = .returned (.int .i64 (powV n)) ∧ w = w' := by
  have H := rpadded_any n w h0 h1
  have hq1 : 1 ≤ padV n := two_pos _
  have hq2 : padV n ≤ 65536 := two_16 (padS_le n)
  by_cases c1 : n < 1
  · have HV := Lib.hid (show powV n = -1 by unfold powV; rw [if_neg (by omega)])
    go_enter Tryd.func26, Tryd.ntmps26
    go_wp2_with fail
    go_ret
    exact ⟨by rw [HV.out]; rfl, rfl⟩
  by_cases c2 : 65536 < n
  · have HV := Lib.hid (show powV n = -1 by unfold powV; rw [if_neg (by omega)])
    go_enter Tryd.func26, Tryd.ntmps26
    go_wp2_with fail
    go_ret
    exact ⟨by rw [HV.out]; rfl, rfl⟩
  by_cases c3 : padV n = n
  · have HV := Lib.hid (show powV n = (stg n : Int) by unfold powV; rw [if_pos c3])
    have h16 := stg_le n
    have hn : n = 2 ^ stg n := by
      rcases stg_is n with e | e
      · exact e
      · exact absurd c3 e.2
    have HS := Lib.hid (show n = 2 ^ stg n from hn)
    rw [c3] at H
    generalize stg n = S at *
    clear hn hq1 hq2 c3
    go_enter Tryd.func26, Tryd.ntmps26
    go_wp2_with fail
    refine H.mono ?_
    rintro e w1 ⟨rfl, rfl⟩
    go_wp2_with fail
    go_loopw [3] (fun v wr => ∃ k : Nat, v = .int .i64 (k : Int) ∧ k ≤ S ∧ w = wr) (fun v _ => S - (intOf v).toNat)
    case atStart => exact ⟨0, rfl, by omega, rfl⟩
    case round =>
      obtain ⟨k, rfl, hk, rfl⟩ := hrel
      have hc : IntKind.u64.wrap (k : Int) = (k : Int) := by rw [IntKind.wrap_u64]; omega
      have p1 := two_pos k
      have p2 := two_16 (show k ≤ 16 by omega)
      have hr := fun W : World => Rc.run_shl_ (P := Tryd.prog) 3 .i64 .u64 (a := 1) k (by show k ≤ 64; omega) W
      rw [show (1 : Int) * 2 ^ k = 2 ^ k by omega, show IntKind.i64.wrap (2 ^ k) = 2 ^ k by rw [IntKind.wrap_i64]; omega] at hr
      by_cases hlt : k < S
      · have hd : (2 : Int) ^ k < n := by
          have := two_mono (show k + 1 ≤ S by omega)
          rw [two_succ] at this
          have := HS.out
          omega
        obtain ⟨p, hp⟩ : ∃ p : Int, 2 ^ k = p := ⟨_, rfl⟩
        rw [hp] at hd hr p1 p2
        clear hp
        go_wp2_with (first
          | (refine Held.wpList_run (w := w) rfl (v := .int .u64 (k : Int)) (Held.y_convert (S := fun _ => True) rfl rfl (by kernel_rfl) Tryd.underlying34 hc _ trivial) ?_)
          | (refine Held.wpList_run (w := w) rfl (v := .int .i64 p) (Held.y_bin (S := fun _ => True) rfl rfl rfl (fun W => by simp [eqGuard]) hr _ trivial) ?_))
        go_roundw
        case rel => exact ⟨k + 1, by go_num, by omega, trivial⟩
        case measure => simp [intOf]; omega
      · obtain rfl : k = S := by omega
        have hd : ¬ (2 : Int) ^ k < n := by have := HS.out; omega
        obtain ⟨p, hp⟩ : ∃ p : Int, 2 ^ k = p := ⟨_, rfl⟩
        rw [hp] at hd hr p1 p2
        clear hp
        go_wp2_with (first
          | (refine Held.wpList_run (w := w) rfl (v := .int .u64 (k : Int)) (Held.y_convert (S := fun _ => True) rfl rfl (by kernel_rfl) Tryd.underlying34 hc _ trivial) ?_)
          | (refine Held.wpList_run (w := w) rfl (v := .int .i64 p) (Held.y_bin (S := fun _ => True) rfl rfl rfl (fun W => by simp [eqGuard]) hr _ trivial) ?_))
        go_ret
        exact ⟨by rw [HV.out]; rfl, rfl⟩
  · have HV := Lib.hid (show powV n = -1 by unfold powV; rw [if_neg c3])
    generalize padV n = q at *
    go_enter Tryd.func26, Tryd.ntmps26
    go_wp2_with fail
    refine H.mono ?_
    rintro e w1 ⟨rfl, rfl⟩
    go_wp2_with fail
    go_ret
    exact ⟨by rw [HV.out]; rfl, rfl⟩
theorem rrounds_any (n : Int) (w : World) (h0 : -9223372036854775808 ≤ n) (h1 : n ≤ 9223372036854775807) :
    Calls Tryd.prog 13 #[.int .i64 n] w fun e w' => e = .returned (.int .i64 (tri (stg n) : Int)) ∧ w = w' := by
  have H := power_any n w h0 h1
  by_cases c3 : padV n = n
  · have h16 := stg_le n
    have htri : tri (stg n) = stg n * (stg n + 1) / 2 := rfl
    rw [htri]
    rw [show powV n = (stg n : Int) by unfold powV; rw [if_pos c3]] at H
    generalize stg n = q at *
    clear htri h0 h1
    have b : q * (q + 1) ≤ 16 * 17 := Nat.mul_le_mul h16 (by omega)
    obtain ⟨m, hm⟩ : ∃ m, q * (q + 1) = m := ⟨_, rfl⟩
    have hmul : IntKind.i64.wrap ((q : Int) * ((q : Int) + 1)) = (m : Int) := by
      rw [show (q : Int) * ((q : Int) + 1) = (m : Int) by rw [← hm]; simp, IntKind.wrap_i64]; omega
    rw [hm] at b ⊢
    clear hm c3
    have hq0 : ¬ (q : Int) < 0 := by omega
    have hq := Held.run_quo (P := Tryd.prog) 3 .i64 (a := (m : Int)) (b := 2) (r := ((m / 2 : Nat) : Int)) (by omega) (by rw [Int.tdiv_eq_ediv_of_nonneg (by omega), IntKind.wrap_i64]; omega)
    go_enter Tryd.func13, Tryd.ntmps13
    go_wp2_with fail
    refine H.mono ?_
    rintro e w1 ⟨rfl, rfl⟩
    go_wp2_with (first
      | (refine Held.wpList_run (w := w) rfl (v := .int .i64 (m : Int)) (Held.y_int (S := fun _ => True) rfl rfl rfl (Held.run_mul 3 .i64 hmul) _ trivial) ?_)
      | (refine Held.wpList_run (w := w) rfl (v := .int .i64 ((m / 2 : Nat) : Int)) (Held.y_int (S := fun _ => True) rfl rfl rfl hq _ trivial) ?_))
    go_ret
    exact ⟨rfl, rfl⟩
  · have hs : stg n = 0 := by
      rcases stg_is n with e | e
      · exact absurd (by rw [e]; exact padV_pow (stg_le n)) c3
      · exact e.1
    rw [show powV n = -1 by unfold powV; rw [if_neg c3]] at H
    rw [hs]
    go_enter Tryd.func13, Tryd.ntmps13
    go_wp2_with fail
    refine H.mono ?_
    rintro e w1 ⟨rfl, rfl⟩
    go_wp2_with fail
    go_ret
    exact ⟨rfl, rfl⟩
end Go.Proofs.YtagcnbcmegdgmaaDoor.Bi
