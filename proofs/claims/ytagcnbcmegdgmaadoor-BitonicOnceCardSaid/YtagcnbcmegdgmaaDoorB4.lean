/-
  dominohelp.Seq2 of package bitonic's iterator, by its contract.
  dominohelp.Plain of lists of numbers, and the document's own answers for package bitonic, by their contracts.
  The document's own answers for package bitonic: which stage and step a round is, which pairs it has, and which of them are up, by their contracts.
  The document's own answer for package bitonic: the first places of a round's pairs, and how far the second ones are, by its contract.
  What the rows' condition on math/bits' tables gives: the table of 64 numbers holds what the program's text lays.
  A round's pairs as plain lists: how many they are, which places they have, each in one pair; what the rounds, one behind the other, make of a list: no program here.
-/
import Derived.Test.YtagcnbcmegdgmaaDoorB3
import Derived.Test.YtagcnbcmegdgmaaDoorB2
import Derived.Lib.LaidTab
import Derived.LaidMore
import Derived.Stop.Joined
import Derived.Stop.LaidErr
set_option linter.unusedVariables false
namespace Go.Proofs.YtagcnbcmegdgmaaDoor.Bi
open Go.RowKit Go.Shelf Go.Proofs.YtagcnbcmegdgmaaDoor Mem Held Go.Proofs.YtagcnbcmegdgmaaDoor.Range
attribute [local go_sem] Oper.semAt_some
attribute [local irreducible] wpList wpListIn Calls
def xsOf (l : List Nat) : List Int := l.map fun (a : Nat) => (a : Int)
def ysOf (t : Nat) (l : List Nat) : List Int := l.map fun (a : Nat) => (a : Int) + 2 ^ (t - 1)
def I2 (w V : World) (B gx gy t : Nat) (pre : List Nat) (W : World) : Prop := ∃ vx vy, Two w V B gx gy vx vy vx vy (xsOf pre) (ysOf t pre) W
theorem I2.from (w V : World) (B gx gy t : Nat) : OwnFrom B (I2 w V B gx gy t) := fun pre W W' row h hg hr => by
  obtain ⟨vx, vy, h⟩ := h
  exact ⟨vx, vy, h.keep hg hr⟩
theorem results_three {P : Program} {fn : Func} {p q r : Tmp} {t u v : TypeId} (h : fn.results = #[.cell p t, .cell q u, .cell r v]) (tmps : Array Value) (w : World) (g g' g'' : Nat) (x y z : Value) (hp : tmps.getD p undef = .pointer (some ⟨g, 0, none⟩)) (hq : tmps.getD q undef = .pointer (some ⟨g', 0, none⟩)) (hr : tmps.getD r undef = .pointer (some ⟨g'', 0, none⟩))
    (ht : plainT P t = true) (hu : plainT P u = true) (hv : plainT P v = true) (hc : w.cell? ⟨g, 0, none⟩ = some x) (hc' : w.cell? ⟨g', 0, none⟩ = some y) (hc'' : w.cell? ⟨g'', 0, none⟩ = some z) : (results fn tmps).run P w = .ok (.tuple #[x, y, z]) w := by
  have a1 : (asAddr (.pointer (some ⟨g, 0, none⟩))).run P w = .ok ⟨g, 0, none⟩ w := by simp [asAddr]
  have a2 : (asAddr (.pointer (some ⟨g', 0, none⟩))).run P w = .ok ⟨g', 0, none⟩ w := by simp [asAddr]
  have a3 : (asAddr (.pointer (some ⟨g'', 0, none⟩))).run P w = .ok ⟨g'', 0, none⟩ w := by simp [asAddr]
  have hp2 : tmps[p]?.getD undef = .pointer (some ⟨g, 0, none⟩) := by simpa using hp
  have hq2 : tmps[q]?.getD undef = .pointer (some ⟨g', 0, none⟩) := by simpa using hq
  have hr2 : tmps[r]?.getD undef = .pointer (some ⟨g'', 0, none⟩) := by simpa using hr
  simp only [results, h]
  simp [Sem.run_bind, Result.andThen, hp2, hq2, hr2, a1, a2, a3, Held.run_loadVar_cell t _ w x ht hc, Held.run_loadVar_cell u _ w y hu hc', Held.run_loadVar_cell v _ w z hv hc'']
set_option maxRecDepth 100000 in
set_option maxHeartbeats 8000000 in
theorem seq2_own (bn br most : Nat) (n r : Int) (s t : Nat) (ok : Bool) (w : World) (h0 : -9223372036854775808 ≤ n) (h1 : n ≤ 9223372036854775807) (hT : TzT w) (hF : Found (stg n) r s t ok)
    (hbn : Blk w bn 3 #[.int .i64 n]) (hbr : Blk w br 3 #[.int .i64 r]) (hm : (pairsOf n t ok).length ≤ most) (hm2 : most ≤ 70000) (hall : ∀ a ∈ pairsOf n t ok, a ≤ 65536) (ht : t ≤ 16) :
    Calls Tryd.prog 9 #[.func (.func 20) #[] #[.pointer (some ⟨bn, 0, none⟩), .pointer (some ⟨br, 0, none⟩)], .int .i64 (most : Int)] w fun e w' =>
      ∃ A1 c1 A2 c2, e = .returned (.tuple #[.slice A1 (pairsOf n t ok).length c1, .slice A2 (pairsOf n t ok).length c2, .bool true]) ∧ Mem.Own w' w.heap.size 3 .i64 (.slice A1 (pairsOf n t ok).length c1) (xsOf (pairsOf n t ok)) ∧ Mem.Own w' w.heap.size 3 .i64 (.slice A2 (pairsOf n t ok).length c2) (ysOf t (pairsOf n t ok)) ∧ Below w.heap.size w w' := by
  have hfn := fun W => Held.run_func_nil (P := Tryd.prog) 23 Tryd.underlying23 (.func 20) #[] #[.pointer (some ⟨bn, 0, none⟩), .pointer (some ⟨br, 0, none⟩)] W
  refine (callsIn_wide (n := 3)).1 ?_
  refine callsIn_of_wp_marks Tryd.func9 rfl trivial ?_ rfl
  simp only [Tryd.ntmps9, List.size_toArray, List.length_cons, List.length_nil, Nat.reduceAdd, Nat.reduceSub, Array.replicate_succ, Array.replicate_zero, List.push_toArray, List.append_toArray, List.nil_append, List.cons_append]
  refine wpIn_wide.2 ?_
  go_wp2_with (first
    | (refine Held.wpList_box_cell (w := w) rfl 3 _ rfl (.int .i64 (most : Int)) rfl rfl ?_; intro u1 q1 g1 z1)
    | (refine Held.wpList_alloc_cell (w := u1) rfl 25 rfl (.slice none 0 0) (by kernel_rfl) rfl ?_; intro u2 q2 g2 z2)
    | (refine Held.wpList_alloc_cell (w := u2) rfl 25 rfl (.slice none 0 0) (by kernel_rfl) rfl ?_; intro u3 q3 g3 z3)
    | (refine Held.wpList_alloc_cell (w := u3) rfl 4 rfl (.bool false) (by kernel_rfl) rfl ?_; intro u4 q4 g4 z4)
    | (refine Held.wpList_alloc_cell (w := u4) rfl 25 rfl (.slice none 0 0) (by kernel_rfl) rfl ?_; intro u5 q5 g5 z5)
    | (refine Held.wpList_alloc_cell (w := u5) rfl 25 rfl (.slice none 0 0) (by kernel_rfl) rfl ?_; intro u6 q6 g6 z6))
  have z1 := z1.out
  have z2 := z2.out
  have z3 := z3.out
  have z4 := z4.out
  have z5 := z5.out
  have z6 := z6.out
  have qm : u6.heap[w.heap.size]? = some (.cells #[.int .i64 (most : Int)] 3 (0, 0)) := Held.keep_cells (Held.keep_cells (Held.keep_cells (Held.keep_cells (Held.keep_cells q1 g2 (by simp)) g3 (by simp)) g4 (by simp)) g5 (by simp)) g6 (by simp)
  have qa : u6.heap[u1.heap.size]? = some (.cells #[.slice none 0 0] 25 (0, 0)) := Held.keep_cells (Held.keep_cells (Held.keep_cells (Held.keep_cells q2 g3 (by simp)) g4 (by simp)) g5 (by simp)) g6 (by simp)
  have qb : u6.heap[u2.heap.size]? = some (.cells #[.slice none 0 0] 25 (0, 0)) := Held.keep_cells (Held.keep_cells (Held.keep_cells q3 g4 (by simp)) g5 (by simp)) g6 (by simp)
  have qc : u6.heap[u3.heap.size]? = some (.cells #[.bool false] 4 (0, 0)) := Held.keep_cells (Held.keep_cells q4 g5 (by simp)) g6 (by simp)
  have qx := Held.keep_cells q5 g6 (by simp)
  have b6 : Below w.heap.size w u6 := ((((((Below.refl _ w).grown g1 (by omega) (by simp)).grown g2 (by omega) (by simp)).grown g3 (by omega) (by simp)).grown g4 (by omega) (by simp)).grown g5 (by omega) (by simp)).grown g6 (by omega) (by simp)
  obtain ⟨gm, hgm⟩ : ∃ g, w.heap.size = g := ⟨_, rfl⟩
  obtain ⟨ga, hga⟩ : ∃ g, u1.heap.size = g := ⟨_, rfl⟩
  obtain ⟨gb, hgb⟩ : ∃ g, u2.heap.size = g := ⟨_, rfl⟩
  obtain ⟨gc, hgc⟩ : ∃ g, u3.heap.size = g := ⟨_, rfl⟩
  obtain ⟨gx, hgx⟩ : ∃ g, u4.heap.size = g := ⟨_, rfl⟩
  obtain ⟨gy, hgy⟩ : ∃ g, u5.heap.size = g := ⟨_, rfl⟩
  obtain ⟨B, hB⟩ : ∃ g, u6.heap.size = g := ⟨_, rfl⟩
  have i6 : I2 w u6 B gx gy t [] u6 := ⟨_, _, by omega, by omega, by omega, by omega, by omega, by rw [← hgx]; exact qx, by rw [← hgy]; exact q6, Mem.Own.nil _ _ _ _, Mem.Own.nil _ _ _ _, by simp [Value.ownBlock], fun _ _ _ _ => rfl, b6, by omega⟩
  rw [hgm] at qm
  rw [hga] at qa
  rw [hgb] at qb
  rw [hgc] at qc
  have hwm : w.heap.size ≤ gm := by omega
  have h12 : gm < ga ∧ ga < gb ∧ gb < gc ∧ gc < gx ∧ gx < gy ∧ gy < B := by omega
  have hit := fun N => round_give N bn br n r s t ok u6 h0 h1 (hT.below b6 hT.lt) hF (hbn.after b6) (hbr.after b6)
  have hwf := Lib.hid (fun (a : Nat) (ha : a ∈ pairsOf n t ok) => hall a ha)
  have hD0 := two_pos (t - 1)
  have hD1 := two_16 (show t - 1 ≤ 16 by omega)
  generalize hps : pairsOf n t ok = ps at *
  have HPS := Lib.hid hps
  have HPXA := Lib.hid (fun (pre : List Nat) (x : Nat) => show xsOf (pre ++ [x]) = xsOf pre ++ [(x : Int)] by simp [xsOf])
  have HPYA := Lib.hid (fun (pre : List Nat) (x : Nat) => show ysOf t (pre ++ [x]) = ysOf t pre ++ [(x : Int) + 2 ^ (t - 1)] by simp [ysOf])
  have HLXA := Lib.hid (fun (pre : List Nat) => show (xsOf pre).length = pre.length by simp [xsOf])
  have HLYA := Lib.hid (fun (pre : List Nat) => show (ysOf t pre).length = pre.length by simp [ysOf])
  have hb6 : B ≤ u6.heap.size := by omega
  rw [hgm, hga, hgb, hgc, hgx, hgy]
  clear hps hall hbn hbr hF hT q1 q2 q3 q4 q5 q6 g1 g2 g3 g4 g5 g6 z1 z2 z3 z4 z5 z6 qx hga hgb hgc hgx hgy
  refine (wpIn_wide (n := 3)).1 ?_
  refine wpIn_rangeFunc_give rfl (by omega) (gf := 20) (lb := #[.pointer (some ⟨bn, 0, none⟩), .pointer (some ⟨br, 0, none⟩)]) rfl trivial (enters_of Tryd.func20 (by kernel_rfl) rfl)
    (hit _) (fun h k => trivial) (fun W l o o' hl ho hc _ => trivial) (Below.refl _ _) (fun x B W args hx => by unfold EncP at hx; rw [hx]; rfl)
    (I2 w u6 B gx gy t) (by rw [hB]; exact I2.from _ _ _ _ _ _) i6
    (fun x a' pre W => I2 w u6 B gx gy t pre W ∧ a' = { tmps := #[.func (.func 20) #[] #[.pointer (some ⟨bn, 0, none⟩), .pointer (some ⟨br, 0, none⟩)], .int .i64 (most : Int), undef, .pointer (some ⟨gm, 0, none⟩), .pointer (some ⟨ga, 0, none⟩), .pointer (some ⟨gb, 0, none⟩), .pointer (some ⟨gc, 0, none⟩), .pointer (some ⟨gx, 0, none⟩), .pointer (some ⟨gy, 0, none⟩), .int .i64 (x : Int), .int .i64 ((x : Int) + 2 ^ (t - 1)), .func (.func 20) #[] #[.pointer (some ⟨bn, 0, none⟩), .pointer (some ⟨br, 0, none⟩)], .bool false, .func (.func 20) #[] #[.pointer (some ⟨bn, 0, none⟩), .pointer (some ⟨br, 0, none⟩)], .int .i64 (x : Int), .int .i64 ((x : Int) + 2 ^ (t - 1)), undef, undef, undef, undef, undef, undef, undef, undef, undef, undef, undef, undef, undef, undef], defers := [] }) ?ib ?assign ?body ?done
  case ib =>
    rintro x a' pre W W' row ⟨hi, h3⟩ hgr hrow
    rw [hB] at hrow
    exact ⟨I2.from _ _ _ _ _ _ pre W W' row hi hgr hrow, h3⟩
  case assign =>
    rintro l pre x args W0 W K hi hg rfl hpre hsz hK
    simp only [Held.zip_two, List.setIfInBounds_toArray, List.set_cons_zero, List.set_cons_succ]
    gi_wp2_with fail
    exact hK _ _ (KeepsOthers.refl _) trivial ⟨I2.from _ _ _ _ _ _ pre W0 W none hi hg (fun r e => by cases e), rfl⟩
  case body =>
    rintro l pre x a' W ⟨⟨vx, vy, H⟩, rfl⟩ hpre hsz
    have hx6 := hwf.out x (hpre.subset (by simp))
    have hlen := hpre.length_le
    rw [List.length_append] at hlen
    simp only [List.length_cons, List.length_nil] at hlen
    obtain ⟨m, hm0⟩ : ∃ m, pre.length = m := ⟨_, rfl⟩
    have HLX := Lib.hid ((HLXA.out pre).trans hm0)
    have HLY := Lib.hid ((HLYA.out pre).trans hm0)
    have HPX := Lib.hid (HPXA.out pre x)
    have HPY := Lib.hid (HPYA.out pre x)
    rw [hm0] at hlen
    obtain ⟨A1, c1, rfl, _⟩ := H.ox.form
    obtain ⟨A2, c2, rfl, _⟩ := H.oy.form
    rw [HLX.out, HLY.out] at H
    obtain ⟨D, hD⟩ : ∃ D : Int, 2 ^ (t - 1) = D := ⟨_, rfl⟩
    rw [hD] at HPY hD0 hD1
    rw [hD]
    have wf2 : ∀ z ∈ [(x : Int)], (Lit.int .i64 z).wf = true := by intro z hz; rw [List.mem_singleton] at hz; rw [hz]; exact wf_i64 (by omega) (by omega)
    have wf6 : ∀ z ∈ [(x : Int) + D], (Lit.int .i64 z).wf = true := by intro z hz; rw [List.mem_singleton] at hz; rw [hz]; exact wf_i64 (by omega) (by omega)
    have hgmB : gm < B := by omega
    have hgmx : gm ≠ gx := by omega
    have hgmy : gm ≠ gy := by omega
    have hgt : ¬ ((most : Int) < ((m + 1 : Nat) : Int)) := by omega
    clear hD hm0 hit hpre
    gi_wp2_with fail
    refine Held.wpIn_region_barR (r := some l) (s := 8) (T := fun X => X.heap[gx]? = some (.cells #[.slice A1 m c1] 25 (0, 0)) ∧ X.heap[gy]? = some (.cells #[.slice A2 m c2] 25 (0, 0))) rfl (by kernel_rfl) (by kernel_rfl) (by intro a w h; exact h) ?_
    change wpAnyB _ _ _ _ _ _ _ _ _ W.drew
    have K := Held.others_of_new (grown_of_below ((Below.refl W.heap.size W).drew) none)
    have H := H.after ((Below.refl W.heap.size W).drew)
    have T0 : W.drew.heap[gx]? = some (.cells #[.slice A1 m c1] 25 (0, 0)) ∧ W.drew.heap[gy]? = some (.cells #[.slice A2 m c2] 25 (0, 0)) := ⟨H.cx, H.cy⟩
    refine Held.takeB (v := .slice A1 m c1) 0 (some 16) [8] rfl rfl (by kernel_rfl) (by kernel_rfl) (by kernel_rfl) (by kernel_rfl) (fun _ _ _ h => h) rfl (Held.y_load rfl rfl (by kernel_rfl) (fun X hX => cell_of_one hX.1)) T0 ?_
    simp only [Act.put, Z1, Z2, Z3]
    refine Held.takeB (v := .int .i64 (x : Int)) 1 (some 17) [8] rfl rfl (by kernel_rfl) (by kernel_rfl) (by kernel_rfl) (by kernel_rfl) (fun _ _ _ h => h) rfl (Held.y_move rfl rfl) T0 ?_
    simp only [Act.put, Z1, Z2, Z3]
    refine Held.takeB (v := .slice A2 m c2) 4 (some 20) [8, 7] rfl rfl (by kernel_rfl) (by kernel_rfl) (by kernel_rfl) (by kernel_rfl) (fun _ _ _ h => h) rfl (Held.y_load rfl rfl (by kernel_rfl) (fun X hX => cell_of_one hX.2)) T0 ?_
    simp only [Act.put, Z1, Z2, Z3]
    refine Held.takeB (v := .int .i64 ((x : Int) + D)) 5 (some 21) [8, 7, 6] rfl rfl (by kernel_rfl) (by kernel_rfl) (by kernel_rfl) (by kernel_rfl) (fun _ _ _ h => h) rfl (Held.y_move rfl rfl) T0 ?_
    simp only [Act.put, Z1, Z2, Z3]
    refine Held.twoB 2 6 (by kernel_rfl) ?_ ?_
    · refine Held.op_build_Row 2 (some 18) 25 3 1 .i64 8 [(x : Int)] rfl rfl rfl rfl Tryd.underlying25 info_int (by simp [Act.eval]) rfl (by omega) (by omega) wf2 ?_
      intro p2 w1 r2 b1 q2
      have K := K.trans (Held.others_of_new (grown_of_below b1 none))
      have H := H.after b1
      refine ⟨fun _ => ⟨H.cx, H.cy⟩, ?_⟩
      simp only [Act.put, Z1, Z2, Z3]
      refine Held.twoB 3 6 (by kernel_rfl) ?_ ?_
      · refine op_append_three 3 (some 19) 25 rfl rfl rfl rfl B 3 .i64 8 Tryd.underlying25 info_int (.slice A1 m c1) (xsOf pre) rfl H.ox _ (some ⟨p2, 0, none⟩) 1 1 [(x : Int)] rfl (by have := r2.ints (n := 1) (by simp); simpa using this) (by rw [HLX.out]; omega) (by omega) H.sz ?_
        intro A3 n3 c3 w2 o3 g2 t3 l3
        have K := K.trans (others_own H.ox g2)
        have H := H.appX o3 g2 t3
        refine ⟨fun _ => ⟨H.cx, H.cy⟩, ?_⟩
        simp only [Act.put, Z1, Z2, Z3]
        refine Held.oneB 6 (by kernel_rfl) ?_
        refine Held.op_build_Row 6 (some 22) 25 3 1 .i64 8 [((x : Int) + D)] rfl rfl rfl rfl Tryd.underlying25 info_int (by simp [Act.eval]) rfl (by omega) (by omega) wf6 ?_
        intro p6 w3 r6 b3 q6
        have K := K.trans (Held.others_of_new (grown_of_below b3 none))
        have H := H.after b3
        refine ⟨fun _ => ⟨H.cx, H.cy⟩, ?_⟩
        simp only [Act.put, Z1, Z2, Z3]
        refine Held.oneB 7 (by kernel_rfl) ?_
        refine op_append_three 7 (some 23) 25 rfl rfl rfl rfl B 3 .i64 8 Tryd.underlying25 info_int (.slice A2 m c2) (ysOf t pre) rfl H.oy _ (some ⟨p6, 0, none⟩) 1 1 [((x : Int) + D)] rfl (by have := r6.ints (n := 1) (by simp); simpa using this) (by rw [HLY.out]; omega) (by omega) H.sz ?_
        intro A7 n7 c7 w4 o7 g4 t7 l7
        have K := K.trans (others_own H.oy g4)
        have H := H.appY o7 g4 t7
        refine ⟨fun _ => ⟨H.cx, H.cy⟩, ?_⟩
        simp only [Act.put, Z1, Z2, Z3]
        refine Held.oneB 8 (by kernel_rfl) ?_
        refine Held.op_store_box 8 none 25 gx 25 _ (.slice A3 n3 c3) rfl rfl rfl rfl rfl rfl H.cx (by kernel_rfl) rfl rfl ?_
        intro w5 l8 g5
        have K := K.trans (Held.others_of_grown H.cx g5)
        have H := H.putX l8 g5
        refine ⟨(fun h => by cases h.symm.trans (show _ = true by kernel_rfl)), ?_⟩
        simp only [Act.put]
        refine Held.oneB 9 (by kernel_rfl) ?_
        refine Held.op_store_box 9 none 25 gy 25 _ (.slice A7 n7 c7) rfl rfl rfl rfl rfl rfl H.cy (by kernel_rfl) rfl rfl ?_
        intro w6 l9 g6
        have K := K.trans (Held.others_of_grown H.cy g6)
        have H := H.putY l9 g6
        refine ⟨(fun h => by cases h.symm.trans (show _ = true by kernel_rfl)), ?_⟩
        simp only [Act.put]
        refine doneB (by kernel_rfl) ?_ _
        have e3 : n3 = m + 1 := by have := l3.out; rw [List.length_append, HLX.out] at this; simp at this; omega
        have e7 : n7 = m + 1 := by have := l7.out; rw [List.length_append, HLY.out] at this; simp at this; omega
        subst e3 e7
        have cx9 := cell_of_one H.cx
        have cm9 := cell_of_one ((H.low gm hgmB hgmx hgmy).trans qm)
        gi_wp2_with fail
        exact ⟨K, trivial, _, _, by rw [HPX.out, HPY.out]; exact H⟩
      · refine Held.op_build_Row 6 (some 22) 25 3 1 .i64 8 [((x : Int) + D)] rfl rfl rfl rfl Tryd.underlying25 info_int (by simp [Act.eval]) rfl (by omega) (by omega) wf6 ?_
        intro p6 w2 r6 b2 q6
        have ne6 := Held.apart_new H.ox q6.out
        have K := K.trans (Held.others_of_new (grown_of_below b2 none))
        have H := H.after b2
        have r2 := r2.below b2 r2.lt
        refine ⟨fun _ => ⟨H.cx, H.cy⟩, ?_⟩
        simp only [Act.put, Z1, Z2, Z3]
        refine Held.oneB 3 (by kernel_rfl) ?_
        refine op_append_three 3 (some 19) 25 rfl rfl rfl rfl B 3 .i64 8 Tryd.underlying25 info_int (.slice A1 m c1) (xsOf pre) rfl H.ox _ (some ⟨p2, 0, none⟩) 1 1 [(x : Int)] rfl (by have := r2.ints (n := 1) (by simp); simpa using this) (by rw [HLX.out]; omega) (by omega) H.sz ?_
        intro A3 n3 c3 w3 o3 g3 t3 l3
        have K := K.trans (others_own H.ox g3)
        have r6 := r6.grown g3 ne6
        have H := H.appX o3 g3 t3
        refine ⟨fun _ => ⟨H.cx, H.cy⟩, ?_⟩
        simp only [Act.put, Z1, Z2, Z3]
        refine Held.oneB 7 (by kernel_rfl) ?_
        refine op_append_three 7 (some 23) 25 rfl rfl rfl rfl B 3 .i64 8 Tryd.underlying25 info_int (.slice A2 m c2) (ysOf t pre) rfl H.oy _ (some ⟨p6, 0, none⟩) 1 1 [((x : Int) + D)] rfl (by have := r6.ints (n := 1) (by simp); simpa using this) (by rw [HLY.out]; omega) (by omega) H.sz ?_
        intro A7 n7 c7 w4 o7 g4 t7 l7
        have K := K.trans (others_own H.oy g4)
        have H := H.appY o7 g4 t7
        refine ⟨fun _ => ⟨H.cx, H.cy⟩, ?_⟩
        simp only [Act.put, Z1, Z2, Z3]
        refine Held.oneB 8 (by kernel_rfl) ?_
        refine Held.op_store_box 8 none 25 gx 25 _ (.slice A3 n3 c3) rfl rfl rfl rfl rfl rfl H.cx (by kernel_rfl) rfl rfl ?_
        intro w5 l8 g5
        have K := K.trans (Held.others_of_grown H.cx g5)
        have H := H.putX l8 g5
        refine ⟨(fun h => by cases h.symm.trans (show _ = true by kernel_rfl)), ?_⟩
        simp only [Act.put]
        refine Held.oneB 9 (by kernel_rfl) ?_
        refine Held.op_store_box 9 none 25 gy 25 _ (.slice A7 n7 c7) rfl rfl rfl rfl rfl rfl H.cy (by kernel_rfl) rfl rfl ?_
        intro w6 l9 g6
        have K := K.trans (Held.others_of_grown H.cy g6)
        have H := H.putY l9 g6
        refine ⟨(fun h => by cases h.symm.trans (show _ = true by kernel_rfl)), ?_⟩
        simp only [Act.put]
        refine doneB (by kernel_rfl) ?_ _
        have e3 : n3 = m + 1 := by have := l3.out; rw [List.length_append, HLX.out] at this; simp at this; omega
        have e7 : n7 = m + 1 := by have := l7.out; rw [List.length_append, HLY.out] at this; simp at this; omega
        subst e3 e7
        have cx9 := cell_of_one H.cx
        have cm9 := cell_of_one ((H.low gm hgmB hgmx hgmy).trans qm)
        gi_wp2_with fail
        exact ⟨K, trivial, _, _, by rw [HPX.out, HPY.out]; exact H⟩
    · refine Held.op_build_Row 6 (some 22) 25 3 1 .i64 8 [((x : Int) + D)] rfl rfl rfl rfl Tryd.underlying25 info_int (by simp [Act.eval]) rfl (by omega) (by omega) wf6 ?_
      intro p6 w1 r6 b1 q6
      have ne6 := Held.apart_new H.ox q6.out
      have K := K.trans (Held.others_of_new (grown_of_below b1 none))
      have H := H.after b1
      refine ⟨fun _ => ⟨H.cx, H.cy⟩, ?_⟩
      simp only [Act.put, Z1, Z2, Z3]
      refine Held.oneB 2 (by kernel_rfl) ?_
      refine Held.op_build_Row 2 (some 18) 25 3 1 .i64 8 [(x : Int)] rfl rfl rfl rfl Tryd.underlying25 info_int (by simp [Act.eval]) rfl (by omega) (by omega) wf2 ?_
      intro p2 w2 r2 b2 q2
      have K := K.trans (Held.others_of_new (grown_of_below b2 none))
      have H := H.after b2
      have r6 := r6.below b2 r6.lt
      refine ⟨fun _ => ⟨H.cx, H.cy⟩, ?_⟩
      simp only [Act.put, Z1, Z2, Z3]
      refine Held.oneB 3 (by kernel_rfl) ?_
      refine op_append_three 3 (some 19) 25 rfl rfl rfl rfl B 3 .i64 8 Tryd.underlying25 info_int (.slice A1 m c1) (xsOf pre) rfl H.ox _ (some ⟨p2, 0, none⟩) 1 1 [(x : Int)] rfl (by have := r2.ints (n := 1) (by simp); simpa using this) (by rw [HLX.out]; omega) (by omega) H.sz ?_
      intro A3 n3 c3 w3 o3 g3 t3 l3
      have K := K.trans (others_own H.ox g3)
      have r6 := r6.grown g3 ne6
      have H := H.appX o3 g3 t3
      refine ⟨fun _ => ⟨H.cx, H.cy⟩, ?_⟩
      simp only [Act.put, Z1, Z2, Z3]
      refine Held.oneB 7 (by kernel_rfl) ?_
      refine op_append_three 7 (some 23) 25 rfl rfl rfl rfl B 3 .i64 8 Tryd.underlying25 info_int (.slice A2 m c2) (ysOf t pre) rfl H.oy _ (some ⟨p6, 0, none⟩) 1 1 [((x : Int) + D)] rfl (by have := r6.ints (n := 1) (by simp); simpa using this) (by rw [HLY.out]; omega) (by omega) H.sz ?_
      intro A7 n7 c7 w4 o7 g4 t7 l7
      have K := K.trans (others_own H.oy g4)
      have H := H.appY o7 g4 t7
      refine ⟨fun _ => ⟨H.cx, H.cy⟩, ?_⟩
      simp only [Act.put, Z1, Z2, Z3]
      refine Held.oneB 8 (by kernel_rfl) ?_
      refine Held.op_store_box 8 none 25 gx 25 _ (.slice A3 n3 c3) rfl rfl rfl rfl rfl rfl H.cx (by kernel_rfl) rfl rfl ?_
      intro w5 l8 g5
      have K := K.trans (Held.others_of_grown H.cx g5)
      have H := H.putX l8 g5
      refine ⟨(fun h => by cases h.symm.trans (show _ = true by kernel_rfl)), ?_⟩
      simp only [Act.put]
      refine Held.oneB 9 (by kernel_rfl) ?_
      refine Held.op_store_box 9 none 25 gy 25 _ (.slice A7 n7 c7) rfl rfl rfl rfl rfl rfl H.cy (by kernel_rfl) rfl rfl ?_
      intro w6 l9 g6
      have K := K.trans (Held.others_of_grown H.cy g6)
      have H := H.putY l9 g6
      refine ⟨(fun h => by cases h.symm.trans (show _ = true by kernel_rfl)), ?_⟩
      simp only [Act.put]
      refine doneB (by kernel_rfl) ?_ _
      have e3 : n3 = m + 1 := by have := l3.out; rw [List.length_append, HLX.out] at this; simp at this; omega
      have e7 : n7 = m + 1 := by have := l7.out; rw [List.length_append, HLY.out] at this; simp at this; omega
      subst e3 e7
      have cx9 := cell_of_one H.cx
      have cm9 := cell_of_one ((H.low gm hgmB hgmx hgmy).trans qm)
      gi_wp2_with fail
      exact ⟨K, trivial, _, _, by rw [HPX.out, HPY.out]; exact H⟩
  case done =>
    rintro Dd W hDd ⟨vx, vy, H⟩ hDl
    obtain ⟨m, hm0⟩ : ∃ m, ps.length = m := ⟨_, rfl⟩
    have HLX := Lib.hid ((HLXA.out ps).trans hm0)
    have HLY := Lib.hid ((HLYA.out ps).trans hm0)
    obtain ⟨A1, c1, rfl, _⟩ := H.ox.form
    obtain ⟨A2, c2, rfl, _⟩ := H.oy.form
    rw [HLX.out, HLY.out] at H
    have HM0 := Lib.hid hm0
    have ra := (H.low ga (by omega) (by omega) (by omega)).trans qa
    have rb := (H.low gb (by omega) (by omega) (by omega)).trans qb
    have rc := (H.low gc (by omega) (by omega) (by omega)).trans qc
    have hDB : B ≤ Dd := by omega
    clear hm0 hit
    go_wp2_with fail
    refine wp_region_held (S := fun _ => True) (by kernel_rfl) ?_
    change wpAnyH _ _ _ _ _ _ _ _ W.drew
    have H := H.after ((Below.refl W.heap.size W).drew)
    have ra : W.drew.heap[ga]? = _ := ra
    have rb : W.drew.heap[gb]? = _ := rb
    have rc : W.drew.heap[gc]? = _ := rc
    have hDl : W.drew.heap[Dd]? = _ := hDl
    generalize W.drew = W at *
    refine Held.two 0 1 (by kernel_rfl) ?_ ?_
    · refine Held.op_load 0 (some 28) 25 ⟨gx, 0, none⟩ (.slice A1 m c1) rfl rfl rfl rfl rfl (Held.run_loadVar_cell _ _ _ _ (by kernel_rfl) (cell_of_one H.cx)) ?_
      refine ⟨trivial, ?_⟩
      simp only [Act.put, Z1, Z2, Z3]
      refine Held.two 1 2 (by kernel_rfl) ?_ ?_
      · refine Held.op_load 1 (some 29) 25 ⟨gy, 0, none⟩ (.slice A2 m c2) rfl rfl rfl rfl rfl (Held.run_loadVar_cell _ _ _ _ (by kernel_rfl) (cell_of_one H.cy)) ?_
        refine ⟨trivial, ?_⟩
        simp only [Act.put, Z1, Z2, Z3]
        refine Held.one 2 (by kernel_rfl) ?_
        refine Held.op_store_box 2 none 25 ga 25 _ (.slice A1 m c1) rfl rfl rfl rfl rfl rfl ra (by kernel_rfl) rfl rfl ?_
        intro w1 l1 g1
        refine ⟨trivial, ?_⟩
        simp only [Act.put]
        have rb1 := Held.keep_cells rb g1 (by intro e; injection e with e; omega)
        have rc1 := Held.keep_cells rc g1 (by intro e; injection e with e; omega)
        refine Held.one 3 (by kernel_rfl) ?_
        refine Held.op_store_box 3 none 25 gb 25 _ (.slice A2 m c2) rfl rfl rfl rfl rfl rfl rb1 (by kernel_rfl) rfl rfl ?_
        intro w2 l2 g2
        refine ⟨trivial, ?_⟩
        simp only [Act.put]
        have rc2 := Held.keep_cells rc1 g2 (by intro e; injection e with e; omega)
        have la2 := Held.keep_cells l1 g2 (by intro e; injection e with e; omega)
        refine Held.one 4 (by kernel_rfl) ?_
        refine Held.op_store_box 4 none 4 gc 4 _ (.bool true) rfl rfl rfl rfl rfl rfl rc2 (by kernel_rfl) rfl rfl ?_
        intro w3 l3 g3
        refine ⟨trivial, ?_⟩
        simp only [Act.put]
        have la3 := Held.keep_cells la2 g3 (by intro e; injection e with e; omega)
        have lb3 := Held.keep_cells l2 g3 (by intro e; injection e with e; omega)
        refine wpAnyH_done (by kernel_rfl) ?_ _
        go_wp2_with fail
        have hD1 : w1.heap[Dd]? = some (.deferred (some [])) := (g1.block Dd (by have := (Array.getElem?_eq_some_iff.1 hDl).1; exact this) (by intro e; injection e with e; omega)).trans hDl
        have hD2 : w2.heap[Dd]? = some (.deferred (some [])) := (g2.block Dd (Array.getElem?_eq_some_iff.1 hD1).1 (by intro e; injection e with e; omega)).trans hD1
        have hD3 : w3.heap[Dd]? = some (.deferred (some [])) := (g3.block Dd (Array.getElem?_eq_some_iff.1 hD2).1 (by intro e; injection e with e; omega)).trans hD2
        have gD := grownBy_putObj' w3 Dd (.deferred none)
        have nD : ∀ b : Nat, b < B → some b ≠ some Dd := fun b hb e => by injection e with e; omega
        have nX : ∀ b : Nat, b < B → (Value.slice A1 m c1).ownBlock ≠ some b := fun b hb e => by have := (H.ox.2.lt b e).1; omega
        have nY : ∀ b : Nat, b < B → (Value.slice A2 m c2).ownBlock ≠ some b := fun b hb e => by have := (H.oy.2.lt b e).1; omega
        have ox3 := ((H.ox.kept g1 (.inr (nX ga (by omega)))).kept g2 (.inr (nX gb (by omega)))).kept g3 (.inr (nX gc (by omega)))
        have oy3 := ((H.oy.kept g1 (.inr (nY ga (by omega)))).kept g2 (.inr (nY gb (by omega)))).kept g3 (.inr (nY gc (by omega)))
        have nd : ∀ r, some Dd = some r → ∃ o : Obj, w3.heap[r]? = some o ∧ o.isCells = false := fun r e => by cases e; exact ⟨_, hD3, rfl⟩
        have ox4 := ox3.kept gD (own_ne ox3 nd)
        have oy4 := oy3.kept gD (own_ne oy3 nd)
        have la4 := Held.keep_cells la3 gD (nD ga (by omega))
        have lb4 := Held.keep_cells lb3 gD (nD gb (by omega))
        have lc4 := Held.keep_cells l3 gD (nD gc (by omega))
        have hw1 := g1.size
        have hw2 := g2.size
        have hw3 := g3.size
        have hsz := H.sz
        have bW : Below w.heap.size w W := H.bel
        have bl := (((bW.grown g1 (by omega) (fun r e => by cases e; omega)).grown g2 (by omega) (fun r e => by cases e; omega)).grown g3 (by omega) (fun r e => by cases e; omega)).grown gD (by omega) (fun r e => by cases e; omega)
        refine ⟨by simp, .inl ⟨_, _, rfl, run_takeDeferred hD3, ?_⟩⟩
        exact ⟨_, results_three rfl _ _ ga gb gc _ _ _ rfl rfl rfl (by kernel_rfl) (by kernel_rfl) (by kernel_rfl) (cell_of_one la4) (cell_of_one lb4) (cell_of_one lc4), A1, c1, A2, c2, by rw [HPS.out, HM0.out], by rw [HPS.out, HM0.out]; exact ox4.less (by omega), by rw [HPS.out, HM0.out]; exact oy4.less (by omega), bl⟩
      · refine Held.op_store_box 2 none 25 ga 25 _ (.slice A1 m c1) rfl rfl rfl rfl rfl rfl ra (by kernel_rfl) rfl rfl ?_
        intro w1 l1 g1
        refine ⟨trivial, ?_⟩
        simp only [Act.put]
        have rb1 := Held.keep_cells rb g1 (by intro e; injection e with e; omega)
        have rc1 := Held.keep_cells rc g1 (by intro e; injection e with e; omega)
        refine Held.one 1 (by kernel_rfl) ?_
        refine Held.op_load 1 (some 29) 25 ⟨gy, 0, none⟩ (.slice A2 m c2) rfl rfl rfl rfl rfl (Held.run_loadVar_cell _ _ _ _ (by kernel_rfl) (cell_of_one (Held.keep_cells H.cy g1 (by intro e; injection e with e; have := H.lx; have := H.ly; omega)))) ?_
        refine ⟨trivial, ?_⟩
        simp only [Act.put, Z1, Z2, Z3]
        refine Held.one 3 (by kernel_rfl) ?_
        refine Held.op_store_box 3 none 25 gb 25 _ (.slice A2 m c2) rfl rfl rfl rfl rfl rfl rb1 (by kernel_rfl) rfl rfl ?_
        intro w2 l2 g2
        refine ⟨trivial, ?_⟩
        simp only [Act.put]
        have rc2 := Held.keep_cells rc1 g2 (by intro e; injection e with e; omega)
        have la2 := Held.keep_cells l1 g2 (by intro e; injection e with e; omega)
        refine Held.one 4 (by kernel_rfl) ?_
        refine Held.op_store_box 4 none 4 gc 4 _ (.bool true) rfl rfl rfl rfl rfl rfl rc2 (by kernel_rfl) rfl rfl ?_
        intro w3 l3 g3
        refine ⟨trivial, ?_⟩
        simp only [Act.put]
        have la3 := Held.keep_cells la2 g3 (by intro e; injection e with e; omega)
        have lb3 := Held.keep_cells l2 g3 (by intro e; injection e with e; omega)
        refine wpAnyH_done (by kernel_rfl) ?_ _
        go_wp2_with fail
        have hD1 : w1.heap[Dd]? = some (.deferred (some [])) := (g1.block Dd (by have := (Array.getElem?_eq_some_iff.1 hDl).1; exact this) (by intro e; injection e with e; omega)).trans hDl
        have hD2 : w2.heap[Dd]? = some (.deferred (some [])) := (g2.block Dd (Array.getElem?_eq_some_iff.1 hD1).1 (by intro e; injection e with e; omega)).trans hD1
        have hD3 : w3.heap[Dd]? = some (.deferred (some [])) := (g3.block Dd (Array.getElem?_eq_some_iff.1 hD2).1 (by intro e; injection e with e; omega)).trans hD2
        have gD := grownBy_putObj' w3 Dd (.deferred none)
        have nD : ∀ b : Nat, b < B → some b ≠ some Dd := fun b hb e => by injection e with e; omega
        have nX : ∀ b : Nat, b < B → (Value.slice A1 m c1).ownBlock ≠ some b := fun b hb e => by have := (H.ox.2.lt b e).1; omega
        have nY : ∀ b : Nat, b < B → (Value.slice A2 m c2).ownBlock ≠ some b := fun b hb e => by have := (H.oy.2.lt b e).1; omega
        have ox3 := ((H.ox.kept g1 (.inr (nX ga (by omega)))).kept g2 (.inr (nX gb (by omega)))).kept g3 (.inr (nX gc (by omega)))
        have oy3 := ((H.oy.kept g1 (.inr (nY ga (by omega)))).kept g2 (.inr (nY gb (by omega)))).kept g3 (.inr (nY gc (by omega)))
        have nd : ∀ r, some Dd = some r → ∃ o : Obj, w3.heap[r]? = some o ∧ o.isCells = false := fun r e => by cases e; exact ⟨_, hD3, rfl⟩
        have ox4 := ox3.kept gD (own_ne ox3 nd)
        have oy4 := oy3.kept gD (own_ne oy3 nd)
        have la4 := Held.keep_cells la3 gD (nD ga (by omega))
        have lb4 := Held.keep_cells lb3 gD (nD gb (by omega))
        have lc4 := Held.keep_cells l3 gD (nD gc (by omega))
        have hw1 := g1.size
        have hw2 := g2.size
        have hw3 := g3.size
        have hsz := H.sz
        have bW : Below w.heap.size w W := H.bel
        have bl := (((bW.grown g1 (by omega) (fun r e => by cases e; omega)).grown g2 (by omega) (fun r e => by cases e; omega)).grown g3 (by omega) (fun r e => by cases e; omega)).grown gD (by omega) (fun r e => by cases e; omega)
        refine ⟨by simp, .inl ⟨_, _, rfl, run_takeDeferred hD3, ?_⟩⟩
        exact ⟨_, results_three rfl _ _ ga gb gc _ _ _ rfl rfl rfl (by kernel_rfl) (by kernel_rfl) (by kernel_rfl) (cell_of_one la4) (cell_of_one lb4) (cell_of_one lc4), A1, c1, A2, c2, by rw [HPS.out, HM0.out], by rw [HPS.out, HM0.out]; exact ox4.less (by omega), by rw [HPS.out, HM0.out]; exact oy4.less (by omega), bl⟩
    · refine Held.op_load 1 (some 29) 25 ⟨gy, 0, none⟩ (.slice A2 m c2) rfl rfl rfl rfl rfl (Held.run_loadVar_cell _ _ _ _ (by kernel_rfl) (cell_of_one H.cy)) ?_
      refine ⟨trivial, ?_⟩
      simp only [Act.put, Z1, Z2, Z3]
      refine Held.one 0 (by kernel_rfl) ?_
      refine Held.op_load 0 (some 28) 25 ⟨gx, 0, none⟩ (.slice A1 m c1) rfl rfl rfl rfl rfl (Held.run_loadVar_cell _ _ _ _ (by kernel_rfl) (cell_of_one H.cx)) ?_
      refine ⟨trivial, ?_⟩
      simp only [Act.put, Z1, Z2, Z3]
      refine Held.one 2 (by kernel_rfl) ?_
      refine Held.op_store_box 2 none 25 ga 25 _ (.slice A1 m c1) rfl rfl rfl rfl rfl rfl ra (by kernel_rfl) rfl rfl ?_
      intro w1 l1 g1
      refine ⟨trivial, ?_⟩
      simp only [Act.put]
      have rb1 := Held.keep_cells rb g1 (by intro e; injection e with e; omega)
      have rc1 := Held.keep_cells rc g1 (by intro e; injection e with e; omega)
      refine Held.one 3 (by kernel_rfl) ?_
      refine Held.op_store_box 3 none 25 gb 25 _ (.slice A2 m c2) rfl rfl rfl rfl rfl rfl rb1 (by kernel_rfl) rfl rfl ?_
      intro w2 l2 g2
      refine ⟨trivial, ?_⟩
      simp only [Act.put]
      have rc2 := Held.keep_cells rc1 g2 (by intro e; injection e with e; omega)
      have la2 := Held.keep_cells l1 g2 (by intro e; injection e with e; omega)
      refine Held.one 4 (by kernel_rfl) ?_
      refine Held.op_store_box 4 none 4 gc 4 _ (.bool true) rfl rfl rfl rfl rfl rfl rc2 (by kernel_rfl) rfl rfl ?_
      intro w3 l3 g3
      refine ⟨trivial, ?_⟩
      simp only [Act.put]
      have la3 := Held.keep_cells la2 g3 (by intro e; injection e with e; omega)
      have lb3 := Held.keep_cells l2 g3 (by intro e; injection e with e; omega)
      refine wpAnyH_done (by kernel_rfl) ?_ _
      go_wp2_with fail
      have hD1 : w1.heap[Dd]? = some (.deferred (some [])) := (g1.block Dd (by have := (Array.getElem?_eq_some_iff.1 hDl).1; exact this) (by intro e; injection e with e; omega)).trans hDl
      have hD2 : w2.heap[Dd]? = some (.deferred (some [])) := (g2.block Dd (Array.getElem?_eq_some_iff.1 hD1).1 (by intro e; injection e with e; omega)).trans hD1
      have hD3 : w3.heap[Dd]? = some (.deferred (some [])) := (g3.block Dd (Array.getElem?_eq_some_iff.1 hD2).1 (by intro e; injection e with e; omega)).trans hD2
      have gD := grownBy_putObj' w3 Dd (.deferred none)
      have nD : ∀ b : Nat, b < B → some b ≠ some Dd := fun b hb e => by injection e with e; omega
      have nX : ∀ b : Nat, b < B → (Value.slice A1 m c1).ownBlock ≠ some b := fun b hb e => by have := (H.ox.2.lt b e).1; omega
      have nY : ∀ b : Nat, b < B → (Value.slice A2 m c2).ownBlock ≠ some b := fun b hb e => by have := (H.oy.2.lt b e).1; omega
      have ox3 := ((H.ox.kept g1 (.inr (nX ga (by omega)))).kept g2 (.inr (nX gb (by omega)))).kept g3 (.inr (nX gc (by omega)))
      have oy3 := ((H.oy.kept g1 (.inr (nY ga (by omega)))).kept g2 (.inr (nY gb (by omega)))).kept g3 (.inr (nY gc (by omega)))
      have nd : ∀ r, some Dd = some r → ∃ o : Obj, w3.heap[r]? = some o ∧ o.isCells = false := fun r e => by cases e; exact ⟨_, hD3, rfl⟩
      have ox4 := ox3.kept gD (own_ne ox3 nd)
      have oy4 := oy3.kept gD (own_ne oy3 nd)
      have la4 := Held.keep_cells la3 gD (nD ga (by omega))
      have lb4 := Held.keep_cells lb3 gD (nD gb (by omega))
      have lc4 := Held.keep_cells l3 gD (nD gc (by omega))
      have hw1 := g1.size
      have hw2 := g2.size
      have hw3 := g3.size
      have hsz := H.sz
      have bW : Below w.heap.size w W := H.bel
      have bl := (((bW.grown g1 (by omega) (fun r e => by cases e; omega)).grown g2 (by omega) (fun r e => by cases e; omega)).grown g3 (by omega) (fun r e => by cases e; omega)).grown gD (by omega) (fun r e => by cases e; omega)
      refine ⟨by simp, .inl ⟨_, _, rfl, run_takeDeferred hD3, ?_⟩⟩
      exact ⟨_, results_three rfl _ _ ga gb gc _ _ _ rfl rfl rfl (by kernel_rfl) (by kernel_rfl) (by kernel_rfl) (cell_of_one la4) (cell_of_one lb4) (cell_of_one lc4), A1, c1, A2, c2, by rw [HPS.out, HM0.out], by rw [HPS.out, HM0.out]; exact ox4.less (by omega), by rw [HPS.out, HM0.out]; exact oy4.less (by omega), bl⟩
theorem seq2_any (bn br most : Nat) (n r : Int) (s t : Nat) (ok : Bool) (w : World) (h0 : -9223372036854775808 ≤ n) (h1 : n ≤ 9223372036854775807) (hT : TzT w) (hF : Found (stg n) r s t ok)
    (hbn : Blk w bn 3 #[.int .i64 n]) (hbr : Blk w br 3 #[.int .i64 r]) (hm : (pairsOf n t ok).length ≤ most) (hm2 : most ≤ 70000) (hall : ∀ a ∈ pairsOf n t ok, a ≤ 65536) (ht : t ≤ 16) :
    Calls Tryd.prog 9 #[.func (.func 20) #[] #[.pointer (some ⟨bn, 0, none⟩), .pointer (some ⟨br, 0, none⟩)], .int .i64 (most : Int)] w fun e w' =>
      ∃ A1 c1 A2 c2, e = .returned (.tuple #[.slice A1 (pairsOf n t ok).length c1, .slice A2 (pairsOf n t ok).length c2, .bool true]) ∧ Ints w' .i64 w'.heap.size A1 (pairsOf n t ok).length (xsOf (pairsOf n t ok)) ∧ Ints w' .i64 w'.heap.size A2 (pairsOf n t ok).length (ysOf t (pairsOf n t ok)) ∧ Below w.heap.size w w' :=
  (seq2_own bn br most n r s t ok w h0 h1 hT hF hbn hbr hm hm2 hall ht).mono fun e w' ⟨A1, c1, A2, c2, h1, h2, h3, h4⟩ => ⟨A1, c1, A2, c2, h1, h2.ints (by simp [xsOf]), h3.ints (by simp [ysOf]), h4⟩
end Go.Proofs.YtagcnbcmegdgmaaDoor.Bi
namespace Go.Proofs.YtagcnbcmegdgmaaDoor.Bi
open Go.RowKit Go.Shelf Go.Proofs.YtagcnbcmegdgmaaDoor Mem Held Help Go.Proofs.YtagcnbcmegdgmaaDoor.Range
attribute [local go_sem] Oper.semAt_some
attribute [local irreducible] wpList wpListIn Calls
end Go.Proofs.YtagcnbcmegdgmaaDoor.Bi
namespace Go.Proofs.YtagcnbcmegdgmaaDoor.Bi
open Go.RowKit Go.Shelf Go.Proofs.YtagcnbcmegdgmaaDoor Mem Held Help Go.Proofs.YtagcnbcmegdgmaaDoor.Range
attribute [local go_sem] Oper.semAt_some
attribute [local irreducible] wpList wpListIn Calls
section
variable {P : Program} {S : World → Prop} {ρ : Operand → Value} {o : Oper} {t ty : TypeId} {x y : Operand} {k k' : IntKind} {r : Int}
theorem y_shl (a n : Int) (ho : o.op = .binOp .shl t x y ty) (hx : ρ x = .int k a) (hy : ρ y = .int k' n) (hr : ∀ w : World, (binOp .shl t (.int k a) (.int k' n)).run P w = .ok (.int k r) w) : ∀ w, S w → (execOp ρ o).run P w = .ok (.value (.int k r)) w :=
  Held.y_bin ho hx hy (fun w => by simp [eqGuard]) hr
theorem y_quo (a b : Int) (ho : o.op = .binOp .quo t x y ty) (hx : ρ x = .int k a) (hy : ρ y = .int k b) (hr : ∀ w : World, (binOp .quo t (.int k a) (.int k b)).run P w = .ok (.int k r) w) : ∀ w, S w → (execOp ρ o).run P w = .ok (.value (.int k r)) w := Held.y_int ho hx hy hr
theorem y_rem (a b : Int) (ho : o.op = .binOp .rem t x y ty) (hx : ρ x = .int k a) (hy : ρ y = .int k b) (hr : ∀ w : World, (binOp .rem t (.int k a) (.int k b)).run P w = .ok (.int k r) w) : ∀ w, S w → (execOp ρ o).run P w = .ok (.value (.int k r)) w := Held.y_int ho hx hy hr
end
end Go.Proofs.YtagcnbcmegdgmaaDoor.Bi
namespace Go.Proofs.YtagcnbcmegdgmaaDoor.Bi
open Go.RowKit Go.Shelf Go.Proofs.YtagcnbcmegdgmaaDoor Mem Held Help Go.Proofs.YtagcnbcmegdgmaaDoor.Range
attribute [local go_sem] Oper.semAt_some
attribute [local irreducible] wpList wpListIn Calls
end Go.Proofs.YtagcnbcmegdgmaaDoor.Bi
namespace Go.Proofs.YtagcnbcmegdgmaaDoor.Bi
open Go.RowKit Go.Proofs.YtagcnbcmegdgmaaDoor Mem
set_option maxRecDepth 100000
def biLaid : List (String × DataW Unit) := [("math/bits.deBruijn32tab", Rows.laid_math_bits_deBruijn32tab), ("math/bits.deBruijn64tab", Rows.laid_math_bits_deBruijn64tab)]
theorem bits_of_laid {w : World} (h : laidMetH Tryd.prog biLaid w) : TzT w := by
  rw [MakeChecks.laidMetH_plain _ _ _ (by kernel_rfl)] at h
  have h2 : Lib.TabIs Tryd.prog w "math/bits.deBruijn64tab" .u8 tzT := Lib.tabIs_of_head (e := 5) (n := 64) (zs := tzT) (t := 52) (g := 1) (by kernel_rfl) (by kernel_rfl) Tryd.underlying52 Tryd.underlying5 (by kernel_rfl) (by kernel_rfl) (laidMet.tail h)
  exact Po.tabK_of_var (by kernel_rfl) h2
end Go.Proofs.YtagcnbcmegdgmaaDoor.Bi
namespace Go.Proofs.YtagcnbcmegdgmaaDoor.Bi
open Go.RowKit Go.Proofs.YtagcnbcmegdgmaaDoor
theorem high_lt {d q a : Nat} (hd : 0 < d) (ha : a < d * (2 * q)) (hb : a / d % 2 = 0) : a + d < d * (2 * q) := by
  have h1 : a / d < 2 * q := Nat.div_lt_of_lt_mul ha
  have h2 : a < d * (a / d + 1) := Nat.lt_mul_div_succ a hd
  have h3 : a / d + 2 ≤ 2 * q := by omega
  have h4 : d * (a / d + 2) ≤ d * (2 * q) := Nat.mul_le_mul_left d h3
  have h5 : d * (a / d + 2) = d * (a / d + 1) + d := by rw [show a / d + 2 = (a / d + 1) + 1 by omega, Nat.mul_add d (a / d + 1) 1, Nat.mul_one]
  omega
theorem pow_split {S t : Nat} (h1 : 1 ≤ t) (h2 : t ≤ S) : 2 ^ S = 2 ^ (t - 1) * (2 * 2 ^ (S - t)) := by
  rw [← Nat.mul_assoc, show 2 ^ (t - 1) * 2 = 2 ^ t by rw [← Nat.pow_succ]; congr 1; omega, ← Nat.pow_add]
  congr 1; omega
theorem mem_firsts {d n a : Nat} : a ∈ Net.firsts d n ↔ a < n ∧ a / d % 2 = 0 := by
  unfold Net.firsts
  rw [List.mem_filter, List.mem_range]
  simp
theorem nodup_firsts (d n : Nat) : (Net.firsts d n).Nodup := List.Pairwise.filter _ List.nodup_range
theorem count_low {d : Nat} (hd : 0 < d) (q : Nat) (h : (Net.firsts d (d * (2 * q))).length = d * q) : ∀ j, j ≤ d → (Net.firsts d (d * (2 * q) + j)).length = d * q + j
  | 0, _ => h
  | j + 1, hj => by
    rw [← Nat.add_assoc, firsts_length_step, count_low hd q h j (by omega), if_pos (Net.low_bit (by omega))]
    rfl
theorem count_high {d : Nat} (hd : 0 < d) (q : Nat) (h : (Net.firsts d (d * (2 * q))).length = d * q) : ∀ j, j ≤ d → (Net.firsts d (d * (2 * q) + d + j)).length = d * q + d
  | 0, _ => count_low hd q h d (Nat.le_refl d)
  | j + 1, hj => by
    rw [← Nat.add_assoc, firsts_length_step, count_high hd q h j (by omega), if_neg]
    · rfl
    · rw [show d * (2 * q) + d + j = d * (2 * q) + j + d by omega, Net.high_bit (by omega)]; omega
theorem firsts_count {d : Nat} (hd : 0 < d) : ∀ q, (Net.firsts d (d * (2 * q))).length = d * q
  | 0 => rfl
  | q + 1 => by
    have := count_high hd q (firsts_count hd q) d (Nat.le_refl d)
    rw [show d * (2 * (q + 1)) = d * (2 * q) + d + d by rw [show 2 * (q + 1) = 2 * q + 1 + 1 by omega, Nat.mul_add d (2 * q + 1) 1, Nat.mul_add d (2 * q) 1]; omega, this, Nat.mul_add, Nat.mul_one]
theorem pairs_length {S t : Nat} (h1 : 1 ≤ t) (h2 : t ≤ S) : (Net.firsts (2 ^ (t - 1)) (2 ^ S)).length = 2 ^ S / 2 := by
  rw [pow_split h1 h2, firsts_count (Nat.two_pow_pos _)]
  have : 2 ^ (t - 1) * (2 * 2 ^ (S - t)) = 2 * (2 ^ (t - 1) * 2 ^ (S - t)) := by rw [Nat.mul_left_comm]
  omega
theorem pair_lt {S t a : Nat} (h1 : 1 ≤ t) (h2 : t ≤ S) (ha : a ∈ Net.firsts (2 ^ (t - 1)) (2 ^ S)) : a + 2 ^ (t - 1) < 2 ^ S := by
  obtain ⟨h3, h4⟩ := mem_firsts.1 ha
  rw [pow_split h1 h2] at h3 ⊢
  exact high_lt (Nat.two_pow_pos _) h3 h4
theorem pairs_small {n r : Int} {s t : Nat} {ok : Bool} (hF : Found (stg n) r s t ok) : (pairsOf n t ok).length ≤ n.toNat ∧ (∀ a ∈ pairsOf n t ok, a ≤ 65536) ∧ t ≤ 16 := by
  cases ok with
  | false =>
    rcases hF with ⟨h, _⟩ | ⟨_, _, h, _⟩
    · cases h
    · exact ⟨by simp [pairsOf], fun a ha => by simp [pairsOf] at ha, by omega⟩
  | true =>
    obtain ⟨hn, h1, h2, h3, h4⟩ := hF.is rfl
    have hle : 2 ^ stg n ≤ 65536 := by have := Nat.pow_le_pow_right (n := 2) (by omega) h4; simpa using this
    refine ⟨?_, fun a ha => ?_, by omega⟩
    · unfold pairsOf; rw [if_pos rfl]; exact firsts_length_le _ _
    · unfold pairsOf at ha
      rw [if_pos rfl] at ha
      have := (mem_firsts.1 ha).1
      omega
theorem pairs_pow {S t : Nat} (h : S ≤ 16) : pairsOf (2 ^ S) t true = Net.firsts (2 ^ (t - 1)) (2 ^ S) := by
  unfold pairsOf
  rw [if_pos rfl, two_nat, Int.toNat_natCast]
theorem xsOf_get (l : List Nat) (i : Nat) : (xsOf l).getD i 0 = ((l.getD i 0 : Nat) : Int) := by
  unfold xsOf
  rw [List.getD_eq_getElem?_getD, List.getD_eq_getElem?_getD, List.getElem?_map]
  cases l[i]? <;> rfl
theorem ysOf_get (t : Nat) (l : List Nat) {i : Nat} (hi : i < l.length) : (ysOf t l).getD i 0 = ((l.getD i 0 : Nat) : Int) + 2 ^ (t - 1) := by
  unfold ysOf
  rw [List.getD_eq_getElem?_getD, List.getD_eq_getElem?_getD, List.getElem?_map, List.getElem?_eq_getElem hi]
  rfl
theorem getD_mem {l : List Nat} {i : Nat} (hi : i < l.length) : l.getD i 0 ∈ l := by
  rw [List.getD_eq_getElem?_getD, List.getElem?_eq_getElem hi]
  exact List.getElem_mem hi
def fn (l : List Int) (i : Nat) : Int := l.getD i 0
end Go.Proofs.YtagcnbcmegdgmaaDoor.Bi
