/-
  The law VmPure of package dominolaw11 returns true for every program and all numbers: the same numbers give the same, however often; a program is not changed by what it is given.
-/
import Derived.Test.YteipkkakjgfchaaRows
import Derived.WalkKit
import Derived.ProofKit
import Derived.OpenShut
import Derived.ShutString
import Derived.ChangeOld
import Derived.Below
import Derived.Test.YteipkkakjgfchaaB6
import Derived.Test.YteipkkakjgfchaaB3
import Derived.Test.YteipkkakjgfchaaB5
namespace Go.Proofs.Yteipkkakjgfchaa.vmPure
open Go.ChangeShapes Go.WideShapes Go.ChangeAt Go.RowKit
open Go.ChangeMaps (open_string shut_string)
open Go.Shelf Go.Proofs.Yteipkkakjgfchaa Mem Held Rc Rs Sl Vm
theorem own : ownKnob Try.prog.godebug = none := by kernel_rfl
theorem laidOut : laidOutB Try.prog = true := by kernel_rfl
attribute [local irreducible] wpList Calls
theorem few_any (K : Int) (A1 A2 A3 : Option Addr) (n1 c1 n2 c2 n3 c3 : Nat) (w : World) (h1 : n1 ≤ c1 ∧ c1 ≤ maxLen) (h2 : n2 ≤ c2 ∧ c2 ≤ maxLen) (h3 : n3 ≤ c3 ∧ c3 ≤ maxLen) :
    Calls Try.prog 14 #[.agg #[.int .i64 K, .slice A1 n1 c1, .slice A2 n2 c2, .slice A3 n3 c3]] w fun e w' => e = .returned (.bool (decide (n1 < 200) && decide (n2 < 200) && decide (n3 < 200))) ∧ Below w.heap.size w w' := by
  obtain ⟨b1, hb1⟩ : ∃ b, decide ((n1 : Int) < 200) = b := ⟨_, rfl⟩
  obtain ⟨b2, hb2⟩ : ∃ b, decide ((n2 : Int) < 200) = b := ⟨_, rfl⟩
  obtain ⟨b3, hb3⟩ : ∃ b, decide ((n3 : Int) < 200) = b := ⟨_, rfl⟩
  have e1 : decide (n1 < 200) = b1 := by rw [← hb1]; exact decide_eq_decide.2 (by omega)
  have e2 : decide (n2 < 200) = b2 := by rw [← hb2]; exact decide_eq_decide.2 (by omega)
  have e3 : decide (n3 < 200) = b3 := by rw [← hb3]; exact decide_eq_decide.2 (by omega)
  rw [e1, e2, e3]
  clear e1 e2 e3
  go_enter Try.func14, Try.ntmps14
  cases b1
  · go_wp2_with (first
      | (refine wpList_box_blk (w := w) rfl 27 _ rfl #[.int .i64 K, .slice A1 n1 c1, .slice A2 n2 c2, .slice A3 n3 c3] rfl ?_; intro wb q y z; have b : Below w.heap.size w wb := (Below.refl _ w).grown y (Nat.le_refl _) (by simp); have hc1 := q.cell (i := 1) rfl; have hc2 := q.cell (i := 2) rfl; have hc3 := q.cell (i := 3) rfl; clear q y z)
      | (refine wpList_run (w := wb) rfl (v := .pointer (some ⟨w.heap.size, 1, none⟩)) (Held.y_field (S := fun _ => True) (k := 1) (s := 0) rfl rfl Try.underlying27 rfl (by kernel_rfl) rfl _ trivial) ?_)
      | (refine wpList_run (w := wb) rfl (v := .pointer (some ⟨w.heap.size, 2, none⟩)) (Held.y_field (S := fun _ => True) (k := 2) (s := 0) rfl rfl Try.underlying27 rfl (by kernel_rfl) rfl _ trivial) ?_)
      | (refine wpList_run (w := wb) rfl (v := .pointer (some ⟨w.heap.size, 3, none⟩)) (Held.y_field (S := fun _ => True) (k := 3) (s := 0) rfl rfl Try.underlying27 rfl (by kernel_rfl) rfl _ trivial) ?_))
    go_ret
    exact ⟨rfl, b⟩
  cases b2
  · go_wp2_with (first
      | (refine wpList_box_blk (w := w) rfl 27 _ rfl #[.int .i64 K, .slice A1 n1 c1, .slice A2 n2 c2, .slice A3 n3 c3] rfl ?_; intro wb q y z; have b : Below w.heap.size w wb := (Below.refl _ w).grown y (Nat.le_refl _) (by simp); have hc1 := q.cell (i := 1) rfl; have hc2 := q.cell (i := 2) rfl; have hc3 := q.cell (i := 3) rfl; clear q y z)
      | (refine wpList_run (w := wb) rfl (v := .pointer (some ⟨w.heap.size, 1, none⟩)) (Held.y_field (S := fun _ => True) (k := 1) (s := 0) rfl rfl Try.underlying27 rfl (by kernel_rfl) rfl _ trivial) ?_)
      | (refine wpList_run (w := wb) rfl (v := .pointer (some ⟨w.heap.size, 2, none⟩)) (Held.y_field (S := fun _ => True) (k := 2) (s := 0) rfl rfl Try.underlying27 rfl (by kernel_rfl) rfl _ trivial) ?_)
      | (refine wpList_run (w := wb) rfl (v := .pointer (some ⟨w.heap.size, 3, none⟩)) (Held.y_field (S := fun _ => True) (k := 3) (s := 0) rfl rfl Try.underlying27 rfl (by kernel_rfl) rfl _ trivial) ?_))
    go_ret
    exact ⟨rfl, b⟩
  cases b3
  · go_wp2_with (first
      | (refine wpList_box_blk (w := w) rfl 27 _ rfl #[.int .i64 K, .slice A1 n1 c1, .slice A2 n2 c2, .slice A3 n3 c3] rfl ?_; intro wb q y z; have b : Below w.heap.size w wb := (Below.refl _ w).grown y (Nat.le_refl _) (by simp); have hc1 := q.cell (i := 1) rfl; have hc2 := q.cell (i := 2) rfl; have hc3 := q.cell (i := 3) rfl; clear q y z)
      | (refine wpList_run (w := wb) rfl (v := .pointer (some ⟨w.heap.size, 1, none⟩)) (Held.y_field (S := fun _ => True) (k := 1) (s := 0) rfl rfl Try.underlying27 rfl (by kernel_rfl) rfl _ trivial) ?_)
      | (refine wpList_run (w := wb) rfl (v := .pointer (some ⟨w.heap.size, 2, none⟩)) (Held.y_field (S := fun _ => True) (k := 2) (s := 0) rfl rfl Try.underlying27 rfl (by kernel_rfl) rfl _ trivial) ?_)
      | (refine wpList_run (w := wb) rfl (v := .pointer (some ⟨w.heap.size, 3, none⟩)) (Held.y_field (S := fun _ => True) (k := 3) (s := 0) rfl rfl Try.underlying27 rfl (by kernel_rfl) rfl _ trivial) ?_))
    go_ret
    exact ⟨rfl, b⟩
  · go_wp2_with (first
      | (refine wpList_box_blk (w := w) rfl 27 _ rfl #[.int .i64 K, .slice A1 n1 c1, .slice A2 n2 c2, .slice A3 n3 c3] rfl ?_; intro wb q y z; have b : Below w.heap.size w wb := (Below.refl _ w).grown y (Nat.le_refl _) (by simp); have hc1 := q.cell (i := 1) rfl; have hc2 := q.cell (i := 2) rfl; have hc3 := q.cell (i := 3) rfl; clear q y z)
      | (refine wpList_run (w := wb) rfl (v := .pointer (some ⟨w.heap.size, 1, none⟩)) (Held.y_field (S := fun _ => True) (k := 1) (s := 0) rfl rfl Try.underlying27 rfl (by kernel_rfl) rfl _ trivial) ?_)
      | (refine wpList_run (w := wb) rfl (v := .pointer (some ⟨w.heap.size, 2, none⟩)) (Held.y_field (S := fun _ => True) (k := 2) (s := 0) rfl rfl Try.underlying27 rfl (by kernel_rfl) rfl _ trivial) ?_)
      | (refine wpList_run (w := wb) rfl (v := .pointer (some ⟨w.heap.size, 3, none⟩)) (Held.y_field (S := fun _ => True) (k := 3) (s := 0) rfl rfl Try.underlying27 rfl (by kernel_rfl) rfl _ trivial) ?_))
    go_ret
    exact ⟨rfl, b⟩
theorem plain_true {rs : List R} {u w : World} {A A' : Option Addr} {n c n' c' : Nat} (h : Recs u u.heap.size A n rs) (h' : Recs u u.heap.size A' n' rs) (hl : rs.length ≤ 4) (hb : Below u.heap.size u w) :
    Calls Try.prog 10 #[.slice A n c, .slice A' n' c'] w fun e w' => e = .returned (.bool true) ∧ Below w.heap.size w w' := by
  have := plain_any u.heap.size u.heap.size A A' n n' c c' rs rs w (h.below hb) (h'.below hb) hb.size hb.size (by rw [← h.1]; omega) (by rw [← h'.1]; omega)
  rwa [decide_eq_true rfl] at this
theorem runOut_wf (M : Int) : ∀ (l : List O) (r : List Int) (out : List R), Fit r → (∀ o ∈ l, o.wf) → (∀ x ∈ out, x.wf) → ∀ x ∈ runOut M l r out, x.wf
  | [], _, _, _, _, h => h
  | o :: l, r, out, hr, hl, h => by
    have ho := hl o (by simp)
    refine runOut_wf M l (stepR o r) (stepOut M o r out) (hr.step o ho.2.2.2.2.2) (fun x hx => hl x (by simp [hx])) (fun x hx => ?_)
    unfold stepOut at hx
    split at hx
    · rcases List.mem_or_eq_of_mem_set hx with hx | rfl
      · exact h x hx
      · unfold emitR
        split
        · exact ⟨rfl, rfl, rfl⟩
        · exact ⟨hr.at_ _, hr.at_ _, wrap64_wf _⟩
    · exact h x hx
theorem mapR_wf {K : Int} {m f e : List O} {n key val : Int} (hm : ∀ o ∈ m, o.wf) (hn : (Lit.int .i64 n).wf = true) (hk : (Lit.int .i64 key).wf = true) (hv : (Lit.int .i64 val).wf = true) : ∀ r ∈ mapR K m f e n key val, r.wf := by
  unfold mapR
  split
  · refine runOut_wf _ _ _ _ (fun z hz => ?_) hm (fun x hx => by rw [List.eq_of_mem_replicate hx]; exact ⟨rfl, rfl, rfl⟩)
    simp only [List.mem_cons, List.not_mem_nil, or_false] at hz
    rcases hz with rfl | rfl | rfl | rfl | rfl | rfl | rfl | rfl
    · exact hk
    · exact hv
    · exact hn
    all_goals rfl
  · intro r hr
    cases hr
set_option maxRecDepth 100000 in
set_option maxHeartbeats 16000000 in
theorem start (K : Int) (A1 A2 A3 : Option Addr) (n1 c1 n2 c2 n3 c3 : Nat) (l1 l2 l3 : List O) (n key val : Int) (w : World) (hn : (Lit.int .i64 n).wf = true) (hk : (Lit.int .i64 key).wf = true) (hv : (Lit.int .i64 val).wf = true)
    (h1 : Lst kO w w.heap.size A1 n1 l1 ∧ n1 ≤ c1 ∧ c1 ≤ maxLen) (h2 : Lst kO w w.heap.size A2 n2 l2 ∧ n2 ≤ c2 ∧ c2 ≤ maxLen) (h3 : Lst kO w w.heap.size A3 n3 l3 ∧ n3 ≤ c3 ∧ c3 ≤ maxLen) :
    Calls Try.prog 7 #[.agg #[.int .i64 K, .slice A1 n1 c1, .slice A2 n2 c2, .slice A3 n3 c3], .int .i64 n, .agg #[.int .i64 key, .int .i64 val]] w fun e w' => e = .returned (.bool true) ∧ Below w.heap.size w w' := by
  obtain ⟨h1, h1c⟩ := h1
  obtain ⟨h2, h2c⟩ := h2
  obtain ⟨h3, h3c⟩ := h3
  go_enter Try.func7, Try.ntmps7
  go_wp2_with (first
    | (refine wpList_box_blk (w := w) rfl 27 _ rfl #[.int .i64 K, .slice A1 n1 c1, .slice A2 n2 c2, .slice A3 n3 c3] rfl ?_; intro wa qp y1 z1)
    | (refine wpList_box_blk (w := wa) rfl 40 _ rfl #[.int .i64 key, .int .i64 val] rfl ?_; intro wc qi y2 z2; have qp := qp.grown y2 (by simp); have bz : Below w.heap.size w wc := ((Below.refl _ w).grown y1 (Nat.le_refl _) (by simp)).grown y2 y1.size (by simp); have hpl : w.heap.size ≤ wa.heap.size := y1.size; clear y1 z1 y2 z2)
    | (refine wpList_load_blk (w := wc) rfl 27 _ rfl w.heap.size 4 rfl 27 _ qp _ Try.underlying27 rfl info_prog rfl ?_))
  refine (few_any K A1 A2 A3 n1 c1 n2 c2 n3 c3 wc h1c h2c h3c).mono ?_
  rintro e u ⟨rfl, bu⟩
  by_cases hf : (n1 < 200 ∧ n2 < 200) ∧ n3 < 200
  · obtain ⟨⟨f1, f2⟩, f3⟩ := hf
    rw [decide_eq_true f1, decide_eq_true f2, decide_eq_true f3]
    have qp := qp.after bu
    have qi := qi.after bu
    have bz := bz.trans (bu.mono bz.size)
    have L1 := (h1.below bz).more bz.size
    have L2 := (h2.below bz).more bz.size
    have L3 := (h3.below bz).more bz.size
    have s0 := bz.size
    clear bu
    go_wp2_with fail
    refine wp_mono (Q := fun e a' w' => e = .normal ∧ ∃ g1 g2 g3 gq, a' = { tmps := #[.agg #[.int .i64 K, .slice A1 n1 c1, .slice A2 n2 c2, .slice A3 n3 c3], .int .i64 n, .agg #[.int .i64 key, .int .i64 val], .pointer (some ⟨w.heap.size, 0, none⟩), undef, .pointer (some ⟨wa.heap.size, 0, none⟩), .bool false, .pointer (some ⟨gq, 0, none⟩), undef, undef, undef, .agg #[.int .i64 K, .slice A1 n1 c1, .slice A2 n2 c2, .slice A3 n3 c3], .bool true, .bool false, undef, .pointer (some ⟨w.heap.size, 0, none⟩), .int .i64 K, .pointer (some ⟨w.heap.size, 1, none⟩), .slice A1 n1 c1, .agg #[.int .i64 0, .int .i64 71, .int .i64 0, .int .i64 0, .int .i64 0, .int .i64 0], .slice (some ⟨g1, 0, none⟩) n1 (n1 + 3), .pointer (some ⟨w.heap.size, 2, none⟩), .slice A2 n2 c2, .agg #[.int .i64 0, .int .i64 71, .int .i64 0, .int .i64 0, .int .i64 0, .int .i64 0], .slice (some ⟨g2, 0, none⟩) n2 (n2 + 3), .pointer (some ⟨w.heap.size, 3, none⟩), .slice A3 n3 c3, .agg #[.int .i64 0, .int .i64 71, .int .i64 0, .int .i64 0, .int .i64 0, .int .i64 0], .slice (some ⟨g3, 0, none⟩) n3 (n3 + 3), .agg #[.int .i64 K, .slice (some ⟨g1, 0, none⟩) n1 (n1 + 3), .slice (some ⟨g2, 0, none⟩) n2 (n2 + 3), .slice (some ⟨g3, 0, none⟩) n3 (n3 + 3)], undef, undef, undef, undef, undef, undef, undef, undef, undef, undef, undef, undef, undef, undef, undef, undef, undef, undef, undef, undef, undef, undef, undef, undef, undef, undef, undef, undef, undef, undef, undef, undef, undef, undef, undef, undef, undef, undef, undef, undef, undef, undef, undef, undef, undef, undef, undef, undef, undef, undef, undef, undef], defers := [] } ∧ Blk w' g1 24 (Sl.flat kO (l1 ++ [⟨0, 71, 0, 0, 0, 0⟩, ⟨0, 71, 0, 0, 0, 0⟩, ⟨0, 71, 0, 0, 0, 0⟩])).toArray ∧ Blk w' g2 24 (Sl.flat kO (l2 ++ [⟨0, 71, 0, 0, 0, 0⟩, ⟨0, 71, 0, 0, 0, 0⟩, ⟨0, 71, 0, 0, 0, 0⟩])).toArray ∧ Blk w' g3 24 (Sl.flat kO (l3 ++ [⟨0, 71, 0, 0, 0, 0⟩, ⟨0, 71, 0, 0, 0, 0⟩, ⟨0, 71, 0, 0, 0, 0⟩])).toArray ∧ Blk w' gq 27 #[.int .i64 K, .slice (some ⟨g1, 0, none⟩) n1 (n1 + 3), .slice (some ⟨g2, 0, none⟩) n2 (n2 + 3), .slice (some ⟨g3, 0, none⟩) n3 (n3 + 3)] ∧ Below u.heap.size u w') ?_ ?_
    · refine wp_region_held (S := fun W => Below u.heap.size u W) (by kernel_rfl) ?_
      change wpAnyH _ _ _ _ _ _ _ _ u.drew
      have c0_0 := (Below.refl u.heap.size u).drew
      refine Held.take (v := .pointer (some ⟨w.heap.size, 0, none⟩)) 0 (some 15) rfl rfl (by kernel_rfl) (by kernel_rfl) (by kernel_rfl) (fun _ _ _ h => by cases h.1) rfl (Held.y_field (k := 0) (s := 0) rfl rfl Try.underlying27 rfl (by kernel_rfl) rfl) c0_0 ?_
      simp only [Act.put, Z1, Z2, Z3]
      refine Held.take (v := .int .i64 K) 1 (some 16) rfl rfl (by kernel_rfl) (by kernel_rfl) (by kernel_rfl) (fun _ _ _ h => by cases h.1) rfl (Held.y_load rfl rfl (by kernel_rfl) (fun W hW => (qp.below hW qp.lt).cell rfl)) c0_0 ?_
      simp only [Act.put, Z1, Z2, Z3]
      refine Held.take (v := .pointer (some ⟨w.heap.size, 1, none⟩)) 2 (some 17) rfl rfl (by kernel_rfl) (by kernel_rfl) (by kernel_rfl) (fun _ _ _ h => by cases h.1) rfl (Held.y_field (k := 1) (s := 0) rfl rfl Try.underlying27 rfl (by kernel_rfl) rfl) c0_0 ?_
      simp only [Act.put, Z1, Z2, Z3]
      refine Held.take (v := .slice A1 n1 c1) 3 (some 18) rfl rfl (by kernel_rfl) (by kernel_rfl) (by kernel_rfl) (fun _ _ _ h => by cases h.1) rfl (Held.y_load rfl rfl (by kernel_rfl) (fun W hW => (qp.below hW qp.lt).cell rfl)) c0_0 ?_
      simp only [Act.put, Z1, Z2, Z3]
      refine Held.take (v := .agg #[.int .i64 0, .int .i64 71, .int .i64 0, .int .i64 0, .int .i64 0, .int .i64 0]) 4 (some 19) rfl rfl (by kernel_rfl) (by kernel_rfl) (by kernel_rfl) (fun _ _ _ h => by cases h.1) rfl (Held.y_build rfl (by kernel_rfl)) c0_0 ?_
      simp only [Act.put, Z1, Z2, Z3]
      refine Held.take (v := .pointer (some ⟨w.heap.size, 2, none⟩)) 6 (some 21) rfl rfl (by kernel_rfl) (by kernel_rfl) (by kernel_rfl) (fun _ _ _ h => by cases h.1) rfl (Held.y_field (k := 2) (s := 0) rfl rfl Try.underlying27 rfl (by kernel_rfl) rfl) c0_0 ?_
      simp only [Act.put, Z1, Z2, Z3]
      refine Held.take (v := .slice A2 n2 c2) 7 (some 22) rfl rfl (by kernel_rfl) (by kernel_rfl) (by kernel_rfl) (fun _ _ _ h => by cases h.1) rfl (Held.y_load rfl rfl (by kernel_rfl) (fun W hW => (qp.below hW qp.lt).cell rfl)) c0_0 ?_
      simp only [Act.put, Z1, Z2, Z3]
      refine Held.take (v := .agg #[.int .i64 0, .int .i64 71, .int .i64 0, .int .i64 0, .int .i64 0, .int .i64 0]) 8 (some 23) rfl rfl (by kernel_rfl) (by kernel_rfl) (by kernel_rfl) (fun _ _ _ h => by cases h.1) rfl (Held.y_build rfl (by kernel_rfl)) c0_0 ?_
      simp only [Act.put, Z1, Z2, Z3]
      refine Held.take (v := .pointer (some ⟨w.heap.size, 3, none⟩)) 10 (some 25) rfl rfl (by kernel_rfl) (by kernel_rfl) (by kernel_rfl) (fun _ _ _ h => by cases h.1) rfl (Held.y_field (k := 3) (s := 0) rfl rfl Try.underlying27 rfl (by kernel_rfl) rfl) c0_0 ?_
      simp only [Act.put, Z1, Z2, Z3]
      refine Held.take (v := .slice A3 n3 c3) 11 (some 26) rfl rfl (by kernel_rfl) (by kernel_rfl) (by kernel_rfl) (fun _ _ _ h => by cases h.1) rfl (Held.y_load rfl rfl (by kernel_rfl) (fun W hW => (qp.below hW qp.lt).cell rfl)) c0_0 ?_
      simp only [Act.put, Z1, Z2, Z3]
      refine Held.take (v := .agg #[.int .i64 0, .int .i64 71, .int .i64 0, .int .i64 0, .int .i64 0, .int .i64 0]) 12 (some 27) rfl rfl (by kernel_rfl) (by kernel_rfl) (by kernel_rfl) (fun _ _ _ h => by cases h.1) rfl (Held.y_build rfl (by kernel_rfl)) c0_0 ?_
      simp only [Act.put, Z1, Z2, Z3]
      refine Held.two 5 15 (by kernel_rfl) ?_ ?_
      · refine Held.op_call 5 (some 20) 15 #[.slice A1 n1 c1, .agg #[.int .i64 0, .int .i64 71, .int .i64 0, .int .i64 0, .int .i64 0, .int .i64 0]] rfl rfl rfl rfl (enters_of Try.func15 (by kernel_rfl) rfl) (by simp [Act.eval])
          (Os.own_any u.heap.size A1 n1 c1 l1 ⟨0, 71, 0, 0, 0, 0⟩ _ (L1.below c0_0) c0_0.size (by omega)) ?_
        rintro e w1 ⟨g1, rfl, hg1_, q1, b1⟩
        have c0_1 := c0_0.trans (b1.mono c0_0.size)
        have hg1 := Nat.le_trans c0_0.size hg1_
        have ql1 := q1.lt
        refine ⟨_, rfl, c0_1, ?_⟩
        simp only [Act.put, Z1, Z2, Z3]
        refine Held.two 9 15 (by kernel_rfl) ?_ ?_
        · refine Held.op_call 9 (some 24) 15 #[.slice A2 n2 c2, .agg #[.int .i64 0, .int .i64 71, .int .i64 0, .int .i64 0, .int .i64 0, .int .i64 0]] rfl rfl rfl rfl (enters_of Try.func15 (by kernel_rfl) rfl) (by simp [Act.eval])
            (Os.own_any u.heap.size A2 n2 c2 l2 ⟨0, 71, 0, 0, 0, 0⟩ _ (L2.below c0_1) c0_1.size (by omega)) ?_
          rintro e w2 ⟨g2, rfl, hg2_, q2, b2⟩
          have c0_2 := c0_1.trans (b2.mono c0_1.size)
          have hg2 := Nat.le_trans c0_1.size hg2_
          have ql2 := q2.lt
          have q1 := q1.after b2
          refine ⟨_, rfl, c0_2, ?_⟩
          simp only [Act.put, Z1, Z2, Z3]
          refine Held.two 13 15 (by kernel_rfl) ?_ ?_
          · refine Held.op_call 13 (some 28) 15 #[.slice A3 n3 c3, .agg #[.int .i64 0, .int .i64 71, .int .i64 0, .int .i64 0, .int .i64 0, .int .i64 0]] rfl rfl rfl rfl (enters_of Try.func15 (by kernel_rfl) rfl) (by simp [Act.eval])
              (Os.own_any u.heap.size A3 n3 c3 l3 ⟨0, 71, 0, 0, 0, 0⟩ _ (L3.below c0_2) c0_2.size (by omega)) ?_
            rintro e w3 ⟨g3, rfl, hg3_, q3, b3⟩
            have c0_3 := c0_2.trans (b3.mono c0_2.size)
            have hg3 := Nat.le_trans c0_2.size hg3_
            have ql3 := q3.lt
            have q1 := q1.after b3
            have q2 := q2.after b3
            refine ⟨_, rfl, c0_3, ?_⟩
            simp only [Act.put, Z1, Z2, Z3]
            refine Held.take (v := .agg #[.int .i64 K, .slice (some ⟨g1, 0, none⟩) n1 (n1 + 3), .slice (some ⟨g2, 0, none⟩) n2 (n2 + 3), .slice (some ⟨g3, 0, none⟩) n3 (n3 + 3)]) 14 (some 29) rfl rfl (by kernel_rfl) (by kernel_rfl) (by kernel_rfl) (fun _ _ _ h => by cases h.1) rfl (Held.y_build rfl (by kernel_rfl)) c0_3 ?_
            simp only [Act.put, Z1, Z2, Z3]
            refine Held.one 15 (by kernel_rfl) ?_
            refine op_alloc_blk 15 (some 7) 27 _ rfl rfl rfl rfl zero_prog ?_
            intro gq w4 qq b4 hq4
            have hgq := Nat.le_trans c0_3.size hq4.out
            have hn1 : g1 ≠ gq := fun e => absurd (Nat.lt_of_lt_of_le q1.lt hq4.out) (by rw [e]; exact Nat.lt_irrefl _)
            have q1 := q1.after b4
            have hn2 : g2 ≠ gq := fun e => absurd (Nat.lt_of_lt_of_le q2.lt hq4.out) (by rw [e]; exact Nat.lt_irrefl _)
            have q2 := q2.after b4
            have hn3 : g3 ≠ gq := fun e => absurd (Nat.lt_of_lt_of_le q3.lt hq4.out) (by rw [e]; exact Nat.lt_irrefl _)
            have q3 := q3.after b4
            have c0_4 := c0_3.trans (b4.mono c0_3.size)
            refine ⟨c0_4, ?_⟩
            simp only [Act.put, Z1, Z2, Z3]
            refine Held.one 16 (by kernel_rfl) ?_
            refine Held.op_store_blk 16 none 27 gq 4 27 _ #[.int .i64 K, .slice (some ⟨g1, 0, none⟩) n1 (n1 + 3), .slice (some ⟨g2, 0, none⟩) n2 (n2 + 3), .slice (some ⟨g3, 0, none⟩) n3 (n3 + 3)] rfl rfl rfl rfl rfl rfl qq info_prog rfl rfl (by kernel_rfl) ?_
            intro w5 qz s5
            have c0_5 := c0_4.grown s5 c0_4.size (fun r e => by cases e; exact hgq)
            have y1 := q1.grown s5 (by intro e; injection e with e; exact hn1 e)
            have y2 := q2.grown s5 (by intro e; injection e with e; exact hn2 e)
            have y3 := q3.grown s5 (by intro e; injection e with e; exact hn3 e)
            refine ⟨c0_5, ?_⟩
            simp only [Act.put]
            refine wpAnyH_done (by kernel_rfl) ?_ _
            exact ⟨rfl, g1, g2, g3, gq, rfl, y1, y2, y3, qz, c0_5⟩
          · refine op_alloc_blk 15 (some 7) 27 _ rfl rfl rfl rfl zero_prog ?_
            intro gq w3 qq b3 hq3
            have hgq := Nat.le_trans c0_2.size hq3.out
            have hn1 : g1 ≠ gq := fun e => absurd (Nat.lt_of_lt_of_le q1.lt hq3.out) (by rw [e]; exact Nat.lt_irrefl _)
            have q1 := q1.after b3
            have hn2 : g2 ≠ gq := fun e => absurd (Nat.lt_of_lt_of_le q2.lt hq3.out) (by rw [e]; exact Nat.lt_irrefl _)
            have q2 := q2.after b3
            have c0_3 := c0_2.trans (b3.mono c0_2.size)
            refine ⟨c0_3, ?_⟩
            simp only [Act.put, Z1, Z2, Z3]
            refine Held.one 13 (by kernel_rfl) ?_
            refine Held.op_call 13 (some 28) 15 #[.slice A3 n3 c3, .agg #[.int .i64 0, .int .i64 71, .int .i64 0, .int .i64 0, .int .i64 0, .int .i64 0]] rfl rfl rfl rfl (enters_of Try.func15 (by kernel_rfl) rfl) (by simp [Act.eval])
              (Os.own_any u.heap.size A3 n3 c3 l3 ⟨0, 71, 0, 0, 0, 0⟩ _ (L3.below c0_3) c0_3.size (by omega)) ?_
            rintro e w4 ⟨g3, rfl, hg3_, q3, b4⟩
            have c0_4 := c0_3.trans (b4.mono c0_3.size)
            have hg3 := Nat.le_trans c0_3.size hg3_
            have ql3 := q3.lt
            have q1 := q1.after b4
            have q2 := q2.after b4
            have hn3 : g3 ≠ gq := fun e => absurd qq.lt (by rw [← e]; exact Nat.not_lt.2 hg3_)
            have qq := qq.after b4
            refine ⟨_, rfl, c0_4, ?_⟩
            simp only [Act.put, Z1, Z2, Z3]
            refine Held.take (v := .agg #[.int .i64 K, .slice (some ⟨g1, 0, none⟩) n1 (n1 + 3), .slice (some ⟨g2, 0, none⟩) n2 (n2 + 3), .slice (some ⟨g3, 0, none⟩) n3 (n3 + 3)]) 14 (some 29) rfl rfl (by kernel_rfl) (by kernel_rfl) (by kernel_rfl) (fun _ _ _ h => by cases h.1) rfl (Held.y_build rfl (by kernel_rfl)) c0_4 ?_
            simp only [Act.put, Z1, Z2, Z3]
            refine Held.one 16 (by kernel_rfl) ?_
            refine Held.op_store_blk 16 none 27 gq 4 27 _ #[.int .i64 K, .slice (some ⟨g1, 0, none⟩) n1 (n1 + 3), .slice (some ⟨g2, 0, none⟩) n2 (n2 + 3), .slice (some ⟨g3, 0, none⟩) n3 (n3 + 3)] rfl rfl rfl rfl rfl rfl qq info_prog rfl rfl (by kernel_rfl) ?_
            intro w5 qz s5
            have c0_5 := c0_4.grown s5 c0_4.size (fun r e => by cases e; exact hgq)
            have y1 := q1.grown s5 (by intro e; injection e with e; exact hn1 e)
            have y2 := q2.grown s5 (by intro e; injection e with e; exact hn2 e)
            have y3 := q3.grown s5 (by intro e; injection e with e; exact hn3 e)
            refine ⟨c0_5, ?_⟩
            simp only [Act.put]
            refine wpAnyH_done (by kernel_rfl) ?_ _
            exact ⟨rfl, g1, g2, g3, gq, rfl, y1, y2, y3, qz, c0_5⟩
        · refine op_alloc_blk 15 (some 7) 27 _ rfl rfl rfl rfl zero_prog ?_
          intro gq w2 qq b2 hq2
          have hgq := Nat.le_trans c0_1.size hq2.out
          have hn1 : g1 ≠ gq := fun e => absurd (Nat.lt_of_lt_of_le q1.lt hq2.out) (by rw [e]; exact Nat.lt_irrefl _)
          have q1 := q1.after b2
          have c0_2 := c0_1.trans (b2.mono c0_1.size)
          refine ⟨c0_2, ?_⟩
          simp only [Act.put, Z1, Z2, Z3]
          refine Held.one 9 (by kernel_rfl) ?_
          refine Held.op_call 9 (some 24) 15 #[.slice A2 n2 c2, .agg #[.int .i64 0, .int .i64 71, .int .i64 0, .int .i64 0, .int .i64 0, .int .i64 0]] rfl rfl rfl rfl (enters_of Try.func15 (by kernel_rfl) rfl) (by simp [Act.eval])
            (Os.own_any u.heap.size A2 n2 c2 l2 ⟨0, 71, 0, 0, 0, 0⟩ _ (L2.below c0_2) c0_2.size (by omega)) ?_
          rintro e w3 ⟨g2, rfl, hg2_, q2, b3⟩
          have c0_3 := c0_2.trans (b3.mono c0_2.size)
          have hg2 := Nat.le_trans c0_2.size hg2_
          have ql2 := q2.lt
          have q1 := q1.after b3
          have hn2 : g2 ≠ gq := fun e => absurd qq.lt (by rw [← e]; exact Nat.not_lt.2 hg2_)
          have qq := qq.after b3
          refine ⟨_, rfl, c0_3, ?_⟩
          simp only [Act.put, Z1, Z2, Z3]
          refine Held.one 13 (by kernel_rfl) ?_
          refine Held.op_call 13 (some 28) 15 #[.slice A3 n3 c3, .agg #[.int .i64 0, .int .i64 71, .int .i64 0, .int .i64 0, .int .i64 0, .int .i64 0]] rfl rfl rfl rfl (enters_of Try.func15 (by kernel_rfl) rfl) (by simp [Act.eval])
            (Os.own_any u.heap.size A3 n3 c3 l3 ⟨0, 71, 0, 0, 0, 0⟩ _ (L3.below c0_3) c0_3.size (by omega)) ?_
          rintro e w4 ⟨g3, rfl, hg3_, q3, b4⟩
          have c0_4 := c0_3.trans (b4.mono c0_3.size)
          have hg3 := Nat.le_trans c0_3.size hg3_
          have ql3 := q3.lt
          have q1 := q1.after b4
          have q2 := q2.after b4
          have hn3 : g3 ≠ gq := fun e => absurd qq.lt (by rw [← e]; exact Nat.not_lt.2 hg3_)
          have qq := qq.after b4
          refine ⟨_, rfl, c0_4, ?_⟩
          simp only [Act.put, Z1, Z2, Z3]
          refine Held.take (v := .agg #[.int .i64 K, .slice (some ⟨g1, 0, none⟩) n1 (n1 + 3), .slice (some ⟨g2, 0, none⟩) n2 (n2 + 3), .slice (some ⟨g3, 0, none⟩) n3 (n3 + 3)]) 14 (some 29) rfl rfl (by kernel_rfl) (by kernel_rfl) (by kernel_rfl) (fun _ _ _ h => by cases h.1) rfl (Held.y_build rfl (by kernel_rfl)) c0_4 ?_
          simp only [Act.put, Z1, Z2, Z3]
          refine Held.one 16 (by kernel_rfl) ?_
          refine Held.op_store_blk 16 none 27 gq 4 27 _ #[.int .i64 K, .slice (some ⟨g1, 0, none⟩) n1 (n1 + 3), .slice (some ⟨g2, 0, none⟩) n2 (n2 + 3), .slice (some ⟨g3, 0, none⟩) n3 (n3 + 3)] rfl rfl rfl rfl rfl rfl qq info_prog rfl rfl (by kernel_rfl) ?_
          intro w5 qz s5
          have c0_5 := c0_4.grown s5 c0_4.size (fun r e => by cases e; exact hgq)
          have y1 := q1.grown s5 (by intro e; injection e with e; exact hn1 e)
          have y2 := q2.grown s5 (by intro e; injection e with e; exact hn2 e)
          have y3 := q3.grown s5 (by intro e; injection e with e; exact hn3 e)
          refine ⟨c0_5, ?_⟩
          simp only [Act.put]
          refine wpAnyH_done (by kernel_rfl) ?_ _
          exact ⟨rfl, g1, g2, g3, gq, rfl, y1, y2, y3, qz, c0_5⟩
      · refine op_alloc_blk 15 (some 7) 27 _ rfl rfl rfl rfl zero_prog ?_
        intro gq w1 qq b1 hq1
        have hgq := Nat.le_trans c0_0.size hq1.out
        have c0_1 := c0_0.trans (b1.mono c0_0.size)
        refine ⟨c0_1, ?_⟩
        simp only [Act.put, Z1, Z2, Z3]
        refine Held.one 5 (by kernel_rfl) ?_
        refine Held.op_call 5 (some 20) 15 #[.slice A1 n1 c1, .agg #[.int .i64 0, .int .i64 71, .int .i64 0, .int .i64 0, .int .i64 0, .int .i64 0]] rfl rfl rfl rfl (enters_of Try.func15 (by kernel_rfl) rfl) (by simp [Act.eval])
          (Os.own_any u.heap.size A1 n1 c1 l1 ⟨0, 71, 0, 0, 0, 0⟩ _ (L1.below c0_1) c0_1.size (by omega)) ?_
        rintro e w2 ⟨g1, rfl, hg1_, q1, b2⟩
        have c0_2 := c0_1.trans (b2.mono c0_1.size)
        have hg1 := Nat.le_trans c0_1.size hg1_
        have ql1 := q1.lt
        have hn1 : g1 ≠ gq := fun e => absurd qq.lt (by rw [← e]; exact Nat.not_lt.2 hg1_)
        have qq := qq.after b2
        refine ⟨_, rfl, c0_2, ?_⟩
        simp only [Act.put, Z1, Z2, Z3]
        refine Held.one 9 (by kernel_rfl) ?_
        refine Held.op_call 9 (some 24) 15 #[.slice A2 n2 c2, .agg #[.int .i64 0, .int .i64 71, .int .i64 0, .int .i64 0, .int .i64 0, .int .i64 0]] rfl rfl rfl rfl (enters_of Try.func15 (by kernel_rfl) rfl) (by simp [Act.eval])
          (Os.own_any u.heap.size A2 n2 c2 l2 ⟨0, 71, 0, 0, 0, 0⟩ _ (L2.below c0_2) c0_2.size (by omega)) ?_
        rintro e w3 ⟨g2, rfl, hg2_, q2, b3⟩
        have c0_3 := c0_2.trans (b3.mono c0_2.size)
        have hg2 := Nat.le_trans c0_2.size hg2_
        have ql2 := q2.lt
        have q1 := q1.after b3
        have hn2 : g2 ≠ gq := fun e => absurd qq.lt (by rw [← e]; exact Nat.not_lt.2 hg2_)
        have qq := qq.after b3
        refine ⟨_, rfl, c0_3, ?_⟩
        simp only [Act.put, Z1, Z2, Z3]
        refine Held.one 13 (by kernel_rfl) ?_
        refine Held.op_call 13 (some 28) 15 #[.slice A3 n3 c3, .agg #[.int .i64 0, .int .i64 71, .int .i64 0, .int .i64 0, .int .i64 0, .int .i64 0]] rfl rfl rfl rfl (enters_of Try.func15 (by kernel_rfl) rfl) (by simp [Act.eval])
          (Os.own_any u.heap.size A3 n3 c3 l3 ⟨0, 71, 0, 0, 0, 0⟩ _ (L3.below c0_3) c0_3.size (by omega)) ?_
        rintro e w4 ⟨g3, rfl, hg3_, q3, b4⟩
        have c0_4 := c0_3.trans (b4.mono c0_3.size)
        have hg3 := Nat.le_trans c0_3.size hg3_
        have ql3 := q3.lt
        have q1 := q1.after b4
        have q2 := q2.after b4
        have hn3 : g3 ≠ gq := fun e => absurd qq.lt (by rw [← e]; exact Nat.not_lt.2 hg3_)
        have qq := qq.after b4
        refine ⟨_, rfl, c0_4, ?_⟩
        simp only [Act.put, Z1, Z2, Z3]
        refine Held.take (v := .agg #[.int .i64 K, .slice (some ⟨g1, 0, none⟩) n1 (n1 + 3), .slice (some ⟨g2, 0, none⟩) n2 (n2 + 3), .slice (some ⟨g3, 0, none⟩) n3 (n3 + 3)]) 14 (some 29) rfl rfl (by kernel_rfl) (by kernel_rfl) (by kernel_rfl) (fun _ _ _ h => by cases h.1) rfl (Held.y_build rfl (by kernel_rfl)) c0_4 ?_
        simp only [Act.put, Z1, Z2, Z3]
        refine Held.one 16 (by kernel_rfl) ?_
        refine Held.op_store_blk 16 none 27 gq 4 27 _ #[.int .i64 K, .slice (some ⟨g1, 0, none⟩) n1 (n1 + 3), .slice (some ⟨g2, 0, none⟩) n2 (n2 + 3), .slice (some ⟨g3, 0, none⟩) n3 (n3 + 3)] rfl rfl rfl rfl rfl rfl qq info_prog rfl rfl (by kernel_rfl) ?_
        intro w5 qz s5
        have c0_5 := c0_4.grown s5 c0_4.size (fun r e => by cases e; exact hgq)
        have y1 := q1.grown s5 (by intro e; injection e with e; exact hn1 e)
        have y2 := q2.grown s5 (by intro e; injection e with e; exact hn2 e)
        have y3 := q3.grown s5 (by intro e; injection e with e; exact hn3 e)
        refine ⟨c0_5, ?_⟩
        simp only [Act.put]
        refine wpAnyH_done (by kernel_rfl) ?_ _
        exact ⟨rfl, g1, g2, g3, gq, rfl, y1, y2, y3, qz, c0_5⟩
    · rintro e a' v1 ⟨rfl, g1, g2, g3, gq, rfl, k1, k2, k3, kq, cz⟩
      have qp := qp.after cz
      have qi := qi.after cz
      have N1 := (L1.below cz).more cz.size
      have N2 := (L2.below cz).more cz.size
      have N3 := (L3.below cz).more cz.size
      have bz := bz.trans (cz.mono s0)
      have hfo : ∀ o ∈ [(⟨0, 71, 0, 0, 0, 0⟩ : O), ⟨0, 71, 0, 0, 0, 0⟩, ⟨0, 71, 0, 0, 0, 0⟩], o.wf := fun o ho => by
        simp only [List.mem_cons, List.not_mem_nil, or_false] at ho
        rcases ho with rfl | rfl | rfl <;> exact ⟨rfl, rfl, rfl, rfl, rfl, rfl⟩
      have M1 := lst_of_blk k1 h1.2.1
      have M2 := lst_of_blk k2 h2.2.1
      have M3 := lst_of_blk k3 h3.2.1
      rw [h1.1] at M1
      rw [h2.1] at M2
      rw [h3.1] at M3
      clear cz L1 L2 L3
      go_wp2_with fail
      refine wp_region_held (S := fun W => Below v1.heap.size v1 W) (by kernel_rfl) ?_
      change wpAnyH _ _ _ _ _ _ _ _ v1.drew
      have c0_0 := (Below.refl v1.heap.size v1).drew
      refine Held.tk (v := .agg #[.int .i64 K, .slice (some ⟨g1, 0, none⟩) n1 (n1 + 3), .slice (some ⟨g2, 0, none⟩) n2 (n2 + 3), .slice (some ⟨g3, 0, none⟩) n3 (n3 + 3)]) 0 (some 30) rfl (Held.y_load_blk (n := 4) rfl rfl Try.underlying27 rfl (by kernel_rfl) rfl (fun W hW => kq.below hW kq.lt)) c0_0 ?_
      simp only [Act.put, Z1, Z2, Z3]
      refine Held.tk (v := .int .i64 n) 1 (some 31) rfl (Held.y_move rfl rfl) c0_0 ?_
      simp only [Act.put, Z1, Z2, Z3]
      refine Held.tk (v := .agg #[.int .i64 key, .int .i64 val]) 2 (some 32) rfl (Held.y_load_blk (n := 2) rfl rfl Try.underlying40 rfl (by kernel_rfl) rfl (fun W hW => qi.below hW qi.lt)) c0_0 ?_
      simp only [Act.put, Z1, Z2, Z3]
      refine Held.tk (v := .agg #[.int .i64 K, .slice (some ⟨g1, 0, none⟩) n1 (n1 + 3), .slice (some ⟨g2, 0, none⟩) n2 (n2 + 3), .slice (some ⟨g3, 0, none⟩) n3 (n3 + 3)]) 4 (some 34) rfl (Held.y_load_blk (n := 4) rfl rfl Try.underlying27 rfl (by kernel_rfl) rfl (fun W hW => kq.below hW kq.lt)) c0_0 ?_
      simp only [Act.put, Z1, Z2, Z3]
      refine Held.tk (v := .int .i64 n) 5 (some 35) rfl (Held.y_move rfl rfl) c0_0 ?_
      simp only [Act.put, Z1, Z2, Z3]
      refine Held.tk (v := .agg #[.int .i64 key, .int .i64 val]) 6 (some 36) rfl (Held.y_load_blk (n := 2) rfl rfl Try.underlying40 rfl (by kernel_rfl) rfl (fun W hW => qi.below hW qi.lt)) c0_0 ?_
      simp only [Act.put, Z1, Z2, Z3]
      refine Held.one 3 (by kernel_rfl) ?_
      refine Held.op_call 3 (some 33) 11 #[.agg #[.int .i64 K, .slice (some ⟨g1, 0, none⟩) n1 (n1 + 3), .slice (some ⟨g2, 0, none⟩) n2 (n2 + 3), .slice (some ⟨g3, 0, none⟩) n3 (n3 + 3)], .int .i64 n, .agg #[.int .i64 key, .int .i64 val]] rfl rfl rfl rfl (enters_of Try.func11 (by kernel_rfl) rfl) (by simp [Act.eval])
        (map_any v1.heap.size K _ _ _ _ _ _ _ _ _ l1 l2 l3 n key val _ hn hk hv (M1.below c0_0) (M2.below c0_0) (M3.below c0_0) c0_0.size) ?_
      rintro e w1 ⟨Aa, na, ca, rfl, oa, b1⟩
      have c0_1 := c0_0.trans (b1.mono c0_0.size)
      refine ⟨_, rfl, c0_1, ?_⟩
      simp only [Act.put, Z1, Z2, Z3]
      refine Held.one 7 (by kernel_rfl) ?_
      refine Held.op_call 7 (some 37) 11 #[.agg #[.int .i64 K, .slice (some ⟨g1, 0, none⟩) n1 (n1 + 3), .slice (some ⟨g2, 0, none⟩) n2 (n2 + 3), .slice (some ⟨g3, 0, none⟩) n3 (n3 + 3)], .int .i64 n, .agg #[.int .i64 key, .int .i64 val]] rfl rfl rfl rfl (enters_of Try.func11 (by kernel_rfl) rfl) (by simp [Act.eval])
        (map_any v1.heap.size K _ _ _ _ _ _ _ _ _ l1 l2 l3 n key val _ hn hk hv (M1.below c0_1) (M2.below c0_1) (M3.below c0_1) c0_1.size) ?_
      rintro e w2 ⟨Ab, nb, cb, rfl, ob, b2⟩
      have c0_2 := c0_1.trans (b2.mono c0_1.size)
      have oa := oa.below b2
      refine ⟨_, rfl, c0_2, ?_⟩
      simp only [Act.put, Z1, Z2, Z3]
      refine Held.tk (v := .slice Aa na ca) 8 (some 8) rfl (Held.y_assign rfl rfl) c0_2 ?_
      simp only [Act.put, Z1, Z2, Z3]
      refine Held.tk (v := .slice Ab nb cb) 9 (some 9) rfl (Held.y_assign rfl rfl) c0_2 ?_
      simp only [Act.put, Z1, Z2, Z3]
      refine wpAnyH_done (by kernel_rfl) ?_ _
      have D4 := c0_2
      obtain ⟨v2, rfl⟩ : ∃ v, v = w2 := ⟨_, rfl⟩
      have HWF := Lib.hid (mapR_wf (K := K) (f := l2) (e := l3) h1.2.1 hn hk hv)
      have HLE := Lib.hid (mapR_length K l1 l2 l3 n key val)
      have kq := kq.after D4
      have qp := qp.after D4
      have qi := qi.after D4
      have k1 := k1.after D4
      have k2 := k2.after D4
      have k3 := k3.after D4
      have N1 := (N1.below D4).more D4.size
      have N2 := (N2.below D4).more D4.size
      have N3 := (N3.below D4).more D4.size
      have bz := bz.trans (D4.mono bz.size)
      have M1 := (M1.below D4).more D4.size
      have M2 := (M2.below D4).more D4.size
      have M3 := (M3.below D4).more D4.size
      clear D4
      go_wp2_with fail
      refine wp_region_held (S := fun W => Below v2.heap.size v2 W) (by kernel_rfl) ?_
      change wpAnyH _ _ _ _ _ _ _ _ v2.drew
      have c0_0 := (Below.refl v2.heap.size v2).drew
      refine Held.tk (v := .agg #[.int .i64 K, .slice (some ⟨g1, 0, none⟩) n1 (n1 + 3), .slice (some ⟨g2, 0, none⟩) n2 (n2 + 3), .slice (some ⟨g3, 0, none⟩) n3 (n3 + 3)]) 0 (some 38) rfl (Held.y_load_blk (n := 4) rfl rfl Try.underlying27 rfl (by kernel_rfl) rfl (fun W hW => kq.below hW kq.lt)) c0_0 ?_
      simp only [Act.put, Z1, Z2, Z3]
      refine Held.tk (v := .int .i64 n) 1 (some 39) rfl (Held.y_move rfl rfl) c0_0 ?_
      simp only [Act.put, Z1, Z2, Z3]
      refine Held.tk (v := .pointer (some ⟨wa.heap.size, 1, none⟩)) 2 (some 40) rfl (Held.y_field (k := 1) (s := 0) rfl rfl Try.underlying40 rfl (by kernel_rfl) rfl) c0_0 ?_
      simp only [Act.put, Z1, Z2, Z3]
      refine Held.tk (v := .int .i64 val) 3 (some 41) rfl (Held.y_load rfl rfl (by kernel_rfl) (fun W hW => (qi.below hW qi.lt).cell rfl)) c0_0 ?_
      simp only [Act.put, Z1, Z2, Z3]
      refine Held.tk (v := .agg #[.int .i64 K, .slice A1 n1 c1, .slice A2 n2 c2, .slice A3 n3 c3]) 5 (some 43) rfl (Held.y_load_blk (n := 4) rfl rfl Try.underlying27 rfl (by kernel_rfl) rfl (fun W hW => qp.below hW qp.lt)) c0_0 ?_
      simp only [Act.put, Z1, Z2, Z3]
      refine Held.tk (v := .int .i64 n) 6 (some 44) rfl (Held.y_move rfl rfl) c0_0 ?_
      simp only [Act.put, Z1, Z2, Z3]
      refine Held.tk (v := .pointer (some ⟨wa.heap.size, 1, none⟩)) 7 (some 45) rfl (Held.y_field (k := 1) (s := 0) rfl rfl Try.underlying40 rfl (by kernel_rfl) rfl) c0_0 ?_
      simp only [Act.put, Z1, Z2, Z3]
      refine Held.tk (v := .int .i64 val) 8 (some 46) rfl (Held.y_load rfl rfl (by kernel_rfl) (fun W hW => (qi.below hW qi.lt).cell rfl)) c0_0 ?_
      simp only [Act.put, Z1, Z2, Z3]
      refine Held.one 4 (by kernel_rfl) ?_
      refine Held.op_call 4 (some 42) 13 #[.agg #[.int .i64 K, .slice (some ⟨g1, 0, none⟩) n1 (n1 + 3), .slice (some ⟨g2, 0, none⟩) n2 (n2 + 3), .slice (some ⟨g3, 0, none⟩) n3 (n3 + 3)], .int .i64 n, .int .i64 val] rfl rfl rfl rfl (enters_of Try.func13 (by kernel_rfl) rfl) (by simp [Act.eval])
        (fold_any v2.heap.size K _ _ _ _ _ _ _ _ _ l1 l2 l3 n val _ hn hv (M1.below c0_0) (M2.below c0_0) (M3.below c0_0) c0_0.size) ?_
      rintro e w1 ⟨rfl, b1⟩
      have c0_1 := c0_0.trans (b1.mono c0_0.size)
      refine ⟨_, rfl, c0_1, ?_⟩
      simp only [Act.put, Z1, Z2, Z3]
      refine Held.one 9 (by kernel_rfl) ?_
      refine Held.op_call 9 (some 47) 13 #[.agg #[.int .i64 K, .slice A1 n1 c1, .slice A2 n2 c2, .slice A3 n3 c3], .int .i64 n, .int .i64 val] rfl rfl rfl rfl (enters_of Try.func13 (by kernel_rfl) rfl) (by simp [Act.eval])
        (fold_any v2.heap.size K _ _ _ _ _ _ _ _ _ l1 l2 l3 n val _ hn hv (N1.below c0_1) (N2.below c0_1) (N3.below c0_1) c0_1.size) ?_
      rintro e w2 ⟨rfl, b2⟩
      have c0_2 := c0_1.trans (b2.mono c0_1.size)
      refine ⟨_, rfl, c0_2, ?_⟩
      simp only [Act.put, Z1, Z2, Z3]
      refine Held.tk (v := .bool true) 10 (some 48) rfl (Held.y_eqI rfl rfl rfl (by simp)) c0_2 ?_
      simp only [Act.put, Z1, Z2, Z3]
      refine Held.tk (v := .bool true) 11 (some 49) rfl (Held.y_move rfl rfl) c0_2 ?_
      simp only [Act.put, Z1, Z2, Z3]
      refine Held.tk (v := .slice Aa na ca) 12 (some 50) rfl (Held.y_move rfl rfl) c0_2 ?_
      simp only [Act.put, Z1, Z2, Z3]
      refine Held.tk (v := .slice Ab nb cb) 13 (some 51) rfl (Held.y_move rfl rfl) c0_2 ?_
      simp only [Act.put, Z1, Z2, Z3]
      refine Held.one 14 (by kernel_rfl) ?_
      refine Held.op_call 14 (some 52) 10 #[.slice Aa na ca, .slice Ab nb cb] rfl rfl rfl rfl (enters_of Try.func10 (by kernel_rfl) rfl) (by simp [Act.eval])
        (plain_true (oa.recs HWF.out) (ob.recs HWF.out) HLE.out c0_2) ?_
      rintro e w3 ⟨rfl, b3⟩
      have c0_3 := c0_2.trans (b3.mono c0_2.size)
      refine ⟨_, rfl, c0_3, ?_⟩
      simp only [Act.put, Z1, Z2, Z3]
      refine Held.tk (v := .bool true) 15 (some 53) rfl (Held.y_pick rfl rfl rfl) c0_3 ?_
      simp only [Act.put, Z1, Z2, Z3]
      refine Held.tk (v := .bool true) 16 (some 10) rfl (Held.y_assign rfl rfl) c0_3 ?_
      simp only [Act.put, Z1, Z2, Z3]
      refine wpAnyH_done (by kernel_rfl) ?_ _
      have D5 := c0_3
      obtain ⟨v3, rfl⟩ : ∃ v, v = w3 := ⟨_, rfl⟩
      have kq := kq.after D5
      have qp := qp.after D5
      have k1 := k1.after D5
      have k2 := k2.after D5
      have k3 := k3.after D5
      have N1 := (N1.below D5).more D5.size
      have N2 := (N2.below D5).more D5.size
      have N3 := (N3.below D5).more D5.size
      have bz := bz.trans (D5.mono bz.size)
      clear D5 M1 M2 M3 oa ob HWF HLE c0_0 c0_1 c0_2 c0_3
      go_wp2_with fail
      refine (awake11_any v3).mono ?_
      rintro e v4 ⟨rfl, b4⟩
      have kq := kq.after b4
      have qp := qp.after b4
      have k1 := k1.after b4
      have k2 := k2.after b4
      have k3 := k3.after b4
      have N1 := (N1.below b4).more b4.size
      have N2 := (N2.below b4).more b4.size
      have N3 := (N3.below b4).more b4.size
      have bz := bz.trans (b4.mono bz.size)
      clear b4
      have hcq := kq.cell (i := 1) rfl
      have hcp := qp.cell (i := 1) rfl
      go_wp2_with (first
        | (refine wpList_run (w := v4) rfl (v := .pointer (some ⟨gq, 1, none⟩)) (Held.y_field (S := fun _ => True) (k := 1) (s := 0) rfl rfl Try.underlying27 rfl (by kernel_rfl) rfl _ trivial) ?_)
        | (refine wpList_run (w := v4) rfl (v := .pointer (some ⟨w.heap.size, 1, none⟩)) (Held.y_field (S := fun _ => True) (k := 1) (s := 0) rfl rfl Try.underlying27 rfl (by kernel_rfl) rfl _ trivial) ?_)
        | (refine wpList_build_blk rfl 24 #[_] rfl #[.int .i64 0, .int .i64 71, .int .i64 0, .int .i64 0, .int .i64 0, .int .i64 0] (by kernel_rfl) ?_))
      refine (Os.kept_any _ A1 n1 c1 g1 l1 ⟨0, 71, 0, 0, 0, 0⟩ _ N1 (Nat.le_refl _) (by omega) k1).mono ?_
      rintro e x1 ⟨rfl, b1⟩
      have kq := kq.after b1
      have qp := qp.after b1
      have k1 := k1.after b1
      have k2 := k2.after b1
      have k3 := k3.after b1
      have N1 := (N1.below b1).more b1.size
      have N2 := (N2.below b1).more b1.size
      have N3 := (N3.below b1).more b1.size
      have bz := bz.trans (b1.mono bz.size)
      clear b1 hcq hcp
      have hcq := kq.cell (i := 2) rfl
      have hcp := qp.cell (i := 2) rfl
      go_wp2_with (first
        | (refine wpList_run (w := x1) rfl (v := .pointer (some ⟨gq, 2, none⟩)) (Held.y_field (S := fun _ => True) (k := 2) (s := 0) rfl rfl Try.underlying27 rfl (by kernel_rfl) rfl _ trivial) ?_)
        | (refine wpList_run (w := x1) rfl (v := .pointer (some ⟨w.heap.size, 2, none⟩)) (Held.y_field (S := fun _ => True) (k := 2) (s := 0) rfl rfl Try.underlying27 rfl (by kernel_rfl) rfl _ trivial) ?_)
        | (refine wpList_build_blk rfl 24 #[_] rfl #[.int .i64 0, .int .i64 71, .int .i64 0, .int .i64 0, .int .i64 0, .int .i64 0] (by kernel_rfl) ?_))
      refine (Os.kept_any _ A2 n2 c2 g2 l2 ⟨0, 71, 0, 0, 0, 0⟩ _ N2 (Nat.le_refl _) (by omega) k2).mono ?_
      rintro e x2 ⟨rfl, b2⟩
      have kq := kq.after b2
      have qp := qp.after b2
      have k1 := k1.after b2
      have k2 := k2.after b2
      have k3 := k3.after b2
      have N1 := (N1.below b2).more b2.size
      have N2 := (N2.below b2).more b2.size
      have N3 := (N3.below b2).more b2.size
      have bz := bz.trans (b2.mono bz.size)
      clear b2 hcq hcp
      have hcq := kq.cell (i := 3) rfl
      have hcp := qp.cell (i := 3) rfl
      go_wp2_with (first
        | (refine wpList_run (w := x2) rfl (v := .pointer (some ⟨gq, 3, none⟩)) (Held.y_field (S := fun _ => True) (k := 3) (s := 0) rfl rfl Try.underlying27 rfl (by kernel_rfl) rfl _ trivial) ?_)
        | (refine wpList_run (w := x2) rfl (v := .pointer (some ⟨w.heap.size, 3, none⟩)) (Held.y_field (S := fun _ => True) (k := 3) (s := 0) rfl rfl Try.underlying27 rfl (by kernel_rfl) rfl _ trivial) ?_)
        | (refine wpList_build_blk rfl 24 #[_] rfl #[.int .i64 0, .int .i64 71, .int .i64 0, .int .i64 0, .int .i64 0, .int .i64 0] (by kernel_rfl) ?_))
      refine (Os.kept_any _ A3 n3 c3 g3 l3 ⟨0, 71, 0, 0, 0, 0⟩ _ N3 (Nat.le_refl _) (by omega) k3).mono ?_
      rintro e x3 ⟨rfl, b3⟩
      have kq := kq.after b3
      have qp := qp.after b3
      have k1 := k1.after b3
      have k2 := k2.after b3
      have k3 := k3.after b3
      have N1 := (N1.below b3).more b3.size
      have N2 := (N2.below b3).more b3.size
      have N3 := (N3.below b3).more b3.size
      have bz := bz.trans (b3.mono bz.size)
      clear b3 hcq hcp
      go_wp2_with fail
      go_ret
      exact ⟨rfl, bz⟩
  · have HF := Lib.hid (show (decide (n1 < 200) && decide (n2 < 200) && decide (n3 < 200)) = false by rw [← Bool.decide_and, ← Bool.decide_and]; exact decide_eq_false hf)
    rw [HF.out]
    have bz := bz.trans (bu.mono bz.size)
    clear qp qi bu HF hf
    go_wp2_with fail
    refine (awake11_any u).mono ?_
    rintro e v1 ⟨rfl, b1⟩
    have bz := bz.trans (b1.mono bz.size)
    go_wp2_with fail
    go_ret
    exact ⟨rfl, bz⟩
theorem walk (K0 : Int) (Am0 : Option Addr) (nm0 cm0 : Nat) (lm0 : List Vm.O) (Af0 : Option Addr) (nf0 cf0 : Nat) (lf0 : List Vm.O) (Ae0 : Option Addr) (ne0 ce0 : Nat) (le0 : List Vm.O) (a1 : Int) (ky2 va2 : Int) (w : World) (wK0 : (Lit.int .i64 K0).wf = true) (hm0 : Sl.Lst Vm.kO w w.heap.size Am0 nm0 lm0 ∧ nm0 ≤ cm0 ∧ cm0 ≤ maxLen) (hf0 : Sl.Lst Vm.kO w w.heap.size Af0 nf0 lf0 ∧ nf0 ≤ cf0 ∧ cf0 ≤ maxLen) (he0 : Sl.Lst Vm.kO w w.heap.size Ae0 ne0 le0 ∧ ne0 ≤ ce0 ∧ ce0 ≤ maxLen) (w1 : (Lit.int .i64 a1).wf = true) (wky2 : (Lit.int .i64 ky2).wf = true) (wva2 : (Lit.int .i64 va2).wf = true) :
    Calls Try.prog 7 #[.agg #[.int .i64 K0, .slice Am0 nm0 cm0, .slice Af0 nf0 cf0, .slice Ae0 ne0 ce0], .int .i64 a1, .agg #[.int .i64 ky2, .int .i64 va2]] w fun e w' => e = .returned (.bool true) ∧ Below w.heap.size w w' := by
  exact start K0 Am0 Af0 Ae0 nm0 cm0 nf0 cf0 ne0 ce0 lm0 lf0 le0 a1 ky2 va2 w w1 wky2 wva2 hm0 hf0 he0
set_option maxRecDepth 100000 in
theorem lifted (os : Os) (started : os.Started) (H : Type) (enc : TypeId × Value → H) :
    ReturnsInHanded {} Try.checked os 7 .any (Rows.vmPureSpec.pre6 enc Try.prog Try.f7 Rows.vmPureRow.domain false) (Rows.vmPureSpec.post enc Try.prog Try.f7 false true false false) := by
  refine returnsInHanded_of_change (C := Try.checked) own started (by kernel_rfl) Try.func7
    (ChangeSpec.witness6 (enc := enc) (C := Try.checked) false ⟨#[], #[.agg #[.int .i64 0, .slice none 0 0, .slice none 0 0, .slice none 0 0], .int .i64 0, .agg #[.int .i64 0, .int .i64 0]], []⟩ 8 (by kernel_rfl) (by kernel_rfl) (by kernel_rfl) (by kernel_rfl)) ?_
  intro W base args ds gs before hval0 hW hcnd _
  have hval : ∀ (j : Nat) t v, Try.f7.params[j]? = some t → args[j]? = some v → Value.okWide Try.prog W .any base t v := hval0
  have hW' := hW
  obtain ⟨p, q, hA0, hV, rfl, hfz, hnd⟩ := hW
  have hA : DataW.TrodAll enc Try.prog W 0 (fun _ => true) true Try.f7.params.toList args.toList ds p := hA0
  rw [Try.params7] at hA hval
  obtain ⟨v0, vs0, d0, ds0, p0, q0, hargs, rfl, rfl, h0, r0⟩ := trodAll_cons hA
  obtain ⟨v1, vs1, d1, ds1, p1, q1, rfl, rfl, rfl, h1, r1⟩ := trodAll_cons r0
  obtain ⟨v2, vs2, d2, ds2, p2, q2, rfl, rfl, rfl, h2, r2⟩ := trodAll_cons r1
  obtain ⟨rfl, rfl, rfl⟩ := trodAll_nil r2
  obtain rfl : args = #[v0, v1, v2] := by cases args; simp_all
  obtain ⟨rfl, rfl⟩ := trodVars_none hV
  have kk0 := h0
  have lt0 : ∀ x ∈ p0, x.block < W.heap.size := by obtain ⟨m, hm⟩ := kk0; exact DataW.trod_lt m _ _ _ hm
  obtain ⟨K0, Am0, nm0, cm0, lm0, Af0, nf0, cf0, lf0, Ae0, ne0, ce0, le0, rfl, wK0, hm0, hf0, he0⟩ := Vm.open_prog (hval 0 27 v0 rfl rfl) h0
  obtain ⟨a1, rfl, rfl, rfl, w1⟩ := open_int Try.underlying2 (hval 1 2 v1 rfl rfl) h1
  have kk2 := h2
  have lt2 : ∀ x ∈ p2, x.block < W.heap.size := by obtain ⟨m, hm⟩ := kk2; exact DataW.trod_lt m _ _ _ hm
  obtain ⟨ky2, va2, rfl, wky2, wva2⟩ := Vm.open_pair (hval 2 40 v2 rfl rfl) h2
  clear hA0 hval0
  refine (walk K0 Am0 nm0 cm0 lm0 Af0 nf0 cf0 lf0 Ae0 ne0 ce0 le0 a1 ky2 va2 W wK0 hm0 hf0 he0 w1 wky2 wva2).mono fun e W' ⟨he, bel⟩ => ?_
  subst he
  exact ⟨_, rfl, _, _, _, [], _, [], hW', trodAll_mk1 (shut_bool Try.underlying4 _), (trodAll_cons_mk (Below.trod laidOut (by kernel_rfl) (of_decide_eq_true (by kernel_rfl)) kk0 bel lt0) (trodAll_cons_mk (shut_int Try.underlying2 w1) (trodAll_cons_mk (Below.trod laidOut (by kernel_rfl) (of_decide_eq_true (by kernel_rfl)) kk2 bel lt2) trodAll_mk0))), rfl, bel.frame _, fun h => by cases h⟩
theorem over : Rows.vmPureRow.holds Try.pinned (OpenSpec.ofChange Rows.vmPureSpec) :=
  OpenClaim.holds_of_wide 7 Try.f7 rfl rfl rfl rfl rfl rfl rfl ⟨rfl, rfl, rfl, rfl, rfl⟩ rfl rfl rfl rfl rfl (by kernel_rfl) Try.func7 (by kernel_rfl)
    (of_decide_eq_true (by kernel_rfl)) (by unfold Func.isWrapper; first | (rw [if_pos (by decide +kernel)]; kernel_rfl) | (rw [if_neg (by decide +kernel)]; exact ⟨rfl, rfl⟩))
    (fun os started H enc _ => lifted os started H enc)
theorem proved : Rows.VmPureSaid :=
  over
#print axioms proved
end Go.Proofs.Yteipkkakjgfchaa.vmPure
