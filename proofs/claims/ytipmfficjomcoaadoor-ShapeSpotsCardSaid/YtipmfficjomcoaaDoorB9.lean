/-
  Package shape's Count and Task, by their contracts.
  Package shape's Task, by its contract.
-/
import Derived.Test.YtipmfficjomcoaaDoorB8
set_option linter.unusedVariables false
namespace Go.Proofs.YtipmfficjomcoaaDoor.Sh
open Go.RowKit Go.Shelf Mem Held Go.Proofs.YtipmfficjomcoaaDoor.Range Sl
attribute [local go_sem] Oper.semAt_some
attribute [local irreducible] wpList wpListIn Calls
theorem results_blk_cell {P : Program} {fn : Func} {p q : Tmp} {ty u : TypeId} (h : fn.results = #[.cell p ty, .cell q u]) (tmps : Array Value) (w : World) (g g' n : Nat) (t : TypeId) (cs : Array Value) (v : Value) (hp : tmps.getD p undef = .pointer (some ⟨g, 0, none⟩)) (hq : tmps.getD q undef = .pointer (some ⟨g', 0, none⟩))
    (hr : Blk w g t cs) (d : TypeDesc) (hu : P.underlying ty = some d) (hd : (match d with | .struct _ | .array _ _ => true | _ => false) = true) (hi : (P.info? ty).map (·.size) = some n) (hn : cs.size = n) (hpu : Held.plainT P u = true) (hc : w.cell? ⟨g', 0, none⟩ = some v) : (results fn tmps).run P w = .ok (.tuple #[.agg cs, v]) w := by
  have a1 : (asAddr (.pointer (some ⟨g, 0, none⟩))).run P w = .ok ⟨g, 0, none⟩ w := by simp [asAddr]
  have a2 : (asAddr (.pointer (some ⟨g', 0, none⟩))).run P w = .ok ⟨g', 0, none⟩ w := by simp [asAddr]
  have a3 := run_loadVar_row (P := P) w g t ty cs (0, 0) d hr hu hd (by rw [hi, hn])
  have hp2 : tmps[p]?.getD undef = .pointer (some ⟨g, 0, none⟩) := by simpa using hp
  have hq2 : tmps[q]?.getD undef = .pointer (some ⟨g', 0, none⟩) := by simpa using hq
  simp only [results, h]
  simp [Sem.run_bind, Result.andThen, hp2, hq2, a1, a2, a3, Held.run_loadVar_cell u _ w v hpu hc]
theorem tasks_length {K : Int} {I mp M T : Nat} (h : JobP K I mp M T) : (tasksT I mp M T).length = cnK I mp M T 6 := by
  rw [← grs_tasks]
  exact (grs_chn h).2
theorem frst_end {I mp M T k : Nat} (hg : (grs I mp M T)[k]? = none) : frstA I mp M T k = (tasksT I mp M T).length := by
  unfold frstA
  rw [take_end hg, grs_tasks]
theorem frst_le {K : Int} {I mp M T k : Nat} (h : JobP K I mp M T) : frstA I mp M T k ≤ 1000 := by
  have h6 := cn_le h (Nat.le_refl 6)
  rw [← tasks_length h, ← grs_tasks] at h6
  refine Nat.le_trans ?_ h6
  unfold frstA
  conv => rhs; rw [← List.take_append_drop k (grs I mp M T), List.flatMap_append, List.length_append]
  omega
def taskAt (l : List Tk) (n : Int) : Option Tk := if n < 0 then none else l[n.toNat]?
set_option maxRecDepth 100000 in
set_option maxHeartbeats 8000000 in
theorem count_any (r k b wk : Int) (hk0 : -9223372036854775808 ≤ k) (hk1 : k ≤ 9223372036854775807) (w : World) (hT : Bi.TzT w) :
    Calls Tryd.prog 14 #[.agg #[.int .i64 r, .int .i64 k, .int .i64 b, .int .i64 wk]] w fun e w' => e = .returned (.int .i64 ((tasksT (inN r k b wk) (mpN r k b wk) (mN r k b wk) (tN r k b wk)).length : Int)) ∧ Below w.heap.size w w' := by
  have h := job_of (r := r) (b := b) (wk := wk) hk0 hk1
  have HJ := Lib.hid (fun (W : World) => jobOf_any r k b wk W)
  generalize inN r k b wk = I at *
  generalize mpN r k b wk = mp at *
  generalize mN r k b wk = M at *
  generalize tN r k b wk = T at *
  clear hk0 hk1
  have HGP := Lib.hid (fun (N bq : Nat) (X : World) (q : Blk X bq 62 #[.int .i64 k, .int .i64 (I : Int), .int .i64 (M : Int)]) (hT : Bi.TzT X) => groups_p N bq k I mp M T h X q hT)
  have HIX := Lib.hid (fun (i : Nat) (g : Gr) (hg : (grs I mp M T)[i]? = some g) => show frstA I mp M T i = g.fi ∧ frstA I mp M T (i + 1) = g.fi + g.sz from ⟨by unfold frstA; have := (chn_at (grs_chn h).1 hg).1; omega, take_next (grs_chn h).1 hg⟩)
  have HFE := Lib.hid (fun (i : Nat) (hg : (grs I mp M T)[i]? = none) => frst_end hg)
  have HFL := Lib.hid (fun (i : Nat) => frst_le (k := i) h)
  have hlT := hT.lt
  clear h
  refine (callsIn_wide (n := 9)).1 ?_
  refine callsIn_of_wp_marks Tryd.func14 rfl trivial ?_ rfl
  simp only [Tryd.ntmps14, List.size_toArray, List.length_cons, List.length_nil, Nat.reduceAdd, Nat.reduceSub, Array.replicate_succ, Array.replicate_zero, List.push_toArray, List.append_toArray, List.nil_append, List.cons_append]
  refine wpIn_wide.2 ?_
  go_wp2_with (first
    | (refine wpList_box_blk (w := w) rfl 23 _ rfl _ rfl ?_; intro u1 qu1 gu1 zu1)
    | (refine Held.wpList_alloc_cell (w := u1) rfl 3 rfl (.int .i64 0) (by kernel_rfl) rfl ?_; intro u2 q2 g2 z2)
    | (refine Held.wpList_store_box (w := u2) rfl 3 _ _ rfl u1.heap.size rfl 3 _ (.int .i64 0) rfl q2 (by kernel_rfl) rfl rfl ?_; intro u3 q3 g3; have q3 : Blk u3 u1.heap.size 3 #[.int .i64 0] := q3; have b3 : Below u1.heap.size u1 u3 := ((Below.refl _ u1).grown g2 (Nat.le_refl _) (by simp)).grown g3 g2.size (fun r e => by cases e; exact Nat.le_refl _); have qp3 := qu1.after b3)
    | (refine wpList_load_blk (w := u3) rfl 23 _ rfl (w.heap.size) 4 rfl 23 _ qp3 _ Tryd.underlying23 rfl (by kernel_rfl) rfl ?_))
  refine (HJ.out u3).mono ?_
  rintro e u4 ⟨rfl, b4⟩
  go_wp2_with fail
  refine (groups_any k I M u4).mono ?_
  rintro e u5 ⟨bq, rfl, qq, hbq, b5⟩
  have qc5 := (q3.after b4).after b5
  have b1 : Below w.heap.size w u1 := (Below.refl _ w).grown gu1 (Nat.le_refl _) (by simp)
  have bb : Below w.heap.size w u5 := b1.trans ((b3.mono b1.size).trans ((b4.mono (Nat.le_trans b1.size b3.size)).trans (b5.mono (Nat.le_trans b1.size (Nat.le_trans b3.size b4.size)))))
  have hT5 := hT.below bb hlT
  have l1 : w.heap.size < u1.heap.size := qu1.lt
  have lc : u1.heap.size < u3.heap.size := q3.lt
  have l34 := b4.size
  have l45 := b5.size
  have lq : bq < u5.heap.size := qq.lt
  have hit := HGP.out (9 - 1) bq u5 qq hT5
  have hk0 : KeepsP (fun b => b < w.heap.size) w u5 := ⟨bb.os, bb.tape, bb.output, bb.size, fun r o hr ho => (bb.block r hr).trans ho⟩
  generalize hbc : u1.heap.size = bc at *
  clear b1 b3 b4 b5 bb q2 q3 qp3 gu1 g2 g3 zu1 z2 HGP HJ qq
  go_wp2_with fail
  refine (wpIn_wide (n := 9)).1 ?_
  refine wpIn_rangeFunc_p rfl (by omega) (gf := 54) (lb := #[.pointer (some ⟨bq, 0, none⟩)]) rfl trivial (enters_of Tryd.func54 (by kernel_rfl) rfl)
    hit (Below.refl _ _) (fun _ => rfl) (fun b hb => by rcases hb with rfl | rfl <;> omega)
    (Inn (fun _ _ _ => True) (fun b => b = bc ∨ b = bq) (fun b => b < w.heap.size) (fun i X => Blk X bc 3 #[.int .i64 (frstA I mp M T i : Int)] ∧ KeepsP (fun b => b < w.heap.size) w X) id) (fun _ _ _ _ => False) ?hI (fun c => stay_const) ?h0
    (fun pv i x a' X => ∃ bg, Inn (fun _ _ _ => True) (fun b => b = bg ∨ (b = bc ∨ b = bq)) (fun b => b < w.heap.size) (fun i X => (Blk X bc 3 #[.int .i64 (frstA I mp M T i : Int)] ∧ KeepsP (fun b => b < w.heap.size) w X) ∧ Blk X bg 68 #[.int .i64 x.kd, .int .i64 x.rd, .int .i64 (x.sz : Int), .int .i64 (x.fi : Int)]) id pv i X ∧ a' = { tmps := #[.agg #[.int .i64 r, .int .i64 k, .int .i64 b, .int .i64 wk], .pointer (some ⟨w.heap.size, 0, none⟩), .int .i64 0, .pointer (some ⟨bc, 0, none⟩), .pointer (some ⟨bg, 0, none⟩), .agg #[.int .i64 r, .int .i64 k, .int .i64 b, .int .i64 wk], .agg #[.int .i64 k, .int .i64 (I : Int), .int .i64 (M : Int)], .func (.func 54) #[] #[.pointer (some ⟨bq, 0, none⟩)], grV x, undef, undef, undef, undef, undef], defers := [] }) ?hIb ?assign ?body ?done ?stop
  case hI =>
    refine stay_inn stay_true ?_
    rintro i X X' ⟨a1, a2⟩ kp
    exact ⟨kp_blk kp a1 (by simp), a2.trans (kp.less fun b hb => .inr hb)⟩
  case h0 =>
    refine inn_start (pvo := fun _ => True) trivial (fun _ _ => trivial) ?_ ⟨by rw [show frstA I mp M T 0 = 0 by simp [frstA]]; exact qc5, hk0⟩
    intro b hb
    rcases hb with (rfl | rfl) | hb <;> omega
  case hIb =>
    rintro pv i x a' X X' b ⟨bg, h1, h2⟩ hb hg
    refine ⟨bg, (stay_inn stay_true ?_).put _ _ _ _ _ h1 hb hg, h2⟩
    rintro i X X' ⟨⟨a1, a2⟩, a3⟩ kp
    exact ⟨⟨kp_blk kp a1 (by simp), a2.trans (kp.less fun b hb => .inr hb)⟩, kp_blk kp a3 (by simp)⟩
  case assign =>
    rintro l' pv i x X C hl' hI hat hC
    simp only [grV, List.zip_toArray, List.zip_cons_cons, List.zip_nil_right, List.foldl_toArray, List.foldl_cons, List.foldl_nil, List.setIfInBounds_toArray, List.set_cons_zero, List.set_cons_succ]
    gi_wp2_with (first
      | (refine Held.wpListIn_one (r := some l') rfl (by intro c e; cases e) ?_; refine wpList_alloc_blk (w := X) rfl 68 rfl #[.int .i64 0, .int .i64 0, .int .i64 0, .int .i64 0] (by kernel_rfl) ?_; intro X1 qX1 gX1 zX1; refine wpList_nil ⟨rfl, ?_⟩)
      | (refine Held.wpListIn_one (r := some l') rfl (by intro c e; cases e) ?_; refine wpList_store_blk (w := X1) rfl 68 _ _ rfl (X.heap.size) 4 rfl 68 _ #[.int .i64 x.kd, .int .i64 x.rd, .int .i64 (x.sz : Int), .int .i64 (x.fi : Int)] rfl qX1 (by kernel_rfl) rfl rfl (by kernel_rfl) ?_; intro X2 qX2 gX2 zX2; have bx : Below X.heap.size X X2 := ((Below.refl _ X).grown gX1 (Nat.le_refl _) (by simp)).grown gX2 gX1.size (fun r e => by cases e; exact Nat.le_refl _); refine wpList_nil ⟨rfl, ?_⟩))
    refine hC _ _ (KeepsP.of_below bx) ⟨X.heap.size, inn_more stay_true hI bx (Nat.le_refl _) qX2.lt ?_, rfl⟩
    rintro ⟨a1, a2⟩ kp
    exact ⟨⟨kp_blk kp a1 (by simp), a2.trans (kp.less fun b hb => .inr hb)⟩, qX2⟩
  case body =>
    rintro l' pv i g a' X hl' - ⟨bg, ⟨pvo, p1, -, p3, p4, p5, ⟨qc, kw⟩, qg⟩, rfl⟩ hat
    obtain ⟨hi1, hi2⟩ := HIX.out i g hat
    have hl := HFL.out (i + 1)
    have qc : Blk X bc 3 #[.int .i64 (frstA I mp M T i : Int)] := qc
    simp only [hi1, grV] at qc ⊢
    rw [hi2] at hl
    have HI2 := Lib.hid hi2
    have hadd : IntKind.i64.wrap ((g.fi : Int) + (g.sz : Int)) = (g.fi : Int) + (g.sz : Int) := by rw [IntKind.wrap_i64]; omega
    have cc := qc.cell (i := 0) rfl
    have cg := qg.cell (i := 2) rfl
    have nc := (p4 bc (.inl (.inr (.inl rfl)))).1
    have nq := (p4 bq (.inl (.inr (.inr rfl)))).1
    clear hi1 hi2
    gi_wp2_with (first
      | (refine Held.wpListIn_one (r := some l') rfl (by intro c e; cases e) ?_; refine wpList_fld0 (w := X) rfl rfl rfl Tryd.underlying68 rfl (by kernel_rfl) ?_; refine wpList_nil ⟨rfl, ?_⟩)
      | (refine Held.wpListIn_one (r := some l') rfl (by intro c e; cases e) ?_; refine Held.wpList_store_box (w := X) rfl 3 _ _ rfl bc rfl 3 _ (.int .i64 ((g.fi : Int) + (g.sz : Int))) rfl qc (by kernel_rfl) rfl rfl ?_; intro X2 q2 g2; refine wpList_nil ⟨rfl, ?_⟩))
    have q2 : Blk X2 bc 3 #[.int .i64 ((g.fi : Int) + (g.sz : Int))] := q2
    refine ⟨KeepsP.of_grown g2 (fun b e hb => ?_), fun _ => True, fun _ _ => trivial, trivial, fun _ _ => trivial, fun b hb => ⟨?_, ?_⟩, fun b hb => Nat.lt_of_lt_of_le (p5 b hb) g2.size, ?_, kw.trans (KeepsP.of_grown g2 (fun b e hb => ?_))⟩
    · injection e with e
      subst e
      rcases hb with hb | hb
      · rcases hb with rfl | rfl <;> omega
      · exact nc hb
    · rcases hb with hb | hb
      · exact (p4 b (.inl (.inr hb))).1
      · exact (p4 b (.inr hb)).1
    · rcases hb with hb | hb
      · exact Nat.lt_of_lt_of_le (p4 b (.inl (.inr hb))).2 g2.size
      · exact Nat.lt_of_lt_of_le (p4 b (.inr hb)).2 g2.size
    · show Blk X2 bc 3 #[.int .i64 (frstA I mp M T (i + 1) : Int)]
      rw [HI2.out]
      exact q2
    · injection e with e
      subst e
      omega
  case stop => exact fun _ _ _ _ _ h => h.elim
  case done =>
    rintro D pv i X hat ⟨pvo, p1, -, p3, p4, p5, qc, kw⟩ hD hDh
    have qc : Blk X bc 3 #[.int .i64 (frstA I mp M T i : Int)] := qc
    rw [HFE.out i hat] at qc
    have cc := qc.cell (i := 0) rfl
    have hDw : w.heap.size ≤ D := Nat.le_of_not_lt fun h => (p4 D (.inr h)).1 hD
    go_wp2_with fail
    refine ⟨by simp, .inl ⟨_, _, rfl, run_takeDeferred hDh, ?_⟩⟩
    exact ⟨_, results_tmp rfl _ _ _, rfl, (kw.below (Nat.le_refl _) (fun _ h => h)).grown (grownBy_putObj' X D _) kw.size (fun r e => by injection e with e; omega)⟩
end Go.Proofs.YtipmfficjomcoaaDoor.Sh
namespace Go.Proofs.YtipmfficjomcoaaDoor.Sh
open Go.RowKit Go.Shelf Mem Held Go.Proofs.YtipmfficjomcoaaDoor.Range Sl
attribute [local go_sem] Oper.semAt_some
attribute [local irreducible] wpList wpListIn Calls
theorem taskAt_some {l : List Tk} {n : Int} {i : Nat} {t : Tk} (h : l[i]? = some t) (hn : n = (i : Int)) : taskAt l n = some t := by
  subst hn
  unfold taskAt
  rw [if_neg (by omega), Int.toNat_natCast]
  exact h
theorem taskAt_none {l : List Tk} {n : Int} (h : n < 0 ∨ (l.length : Int) ≤ n) : taskAt l n = none := by
  unfold taskAt
  split
  · rfl
  · rw [List.getElem?_eq_none_iff]
    omega
set_option maxRecDepth 100000 in
set_option maxHeartbeats 16000000 in
theorem task_any (r k b wk n : Int) (hk0 : -9223372036854775808 ≤ k) (hk1 : k ≤ 9223372036854775807) (hn0 : -9223372036854775808 ≤ n) (hn1 : n ≤ 9223372036854775807) (w : World) (hT : Bi.TzT w) :
    Calls Tryd.prog 16 #[.agg #[.int .i64 r, .int .i64 k, .int .i64 b, .int .i64 wk], .int .i64 n] w fun e w' => e = .returned (.tuple #[tkV ((taskAt (tasksT (inN r k b wk) (mpN r k b wk) (mN r k b wk) (tN r k b wk)) n).getD T0), .bool (taskAt (tasksT (inN r k b wk) (mpN r k b wk) (mN r k b wk) (tN r k b wk)) n).isSome]) ∧ Below w.heap.size w w' := by
  have h := job_of (r := r) (b := b) (wk := wk) hk0 hk1
  have HJ := Lib.hid (fun (W : World) => jobOf_any r k b wk W)
  generalize inN r k b wk = I at *
  generalize mpN r k b wk = mp at *
  generalize mN r k b wk = M at *
  generalize tN r k b wk = T at *
  clear hk0 hk1
  have HGP := Lib.hid (fun (N bq : Nat) (X : World) (q : Blk X bq 62 #[.int .i64 k, .int .i64 (I : Int), .int .i64 (M : Int)]) (hT : Bi.TzT X) => groups_p N bq k I mp M T h X q hT)
  have HTK := Lib.hid (fun (i : Nat) (g : Gr) (hg : (grs I mp M T)[i]? = some g) (X : World) (hT : Bi.TzT X) => tasks_any k I mp M T i g h hg X hT)
  have HIX := Lib.hid (fun (i : Nat) (g : Gr) (hg : (grs I mp M T)[i]? = some g) => show frstA I mp M T i = g.fi ∧ frstA I mp M T (i + 1) = g.fi + g.sz from ⟨by unfold frstA; have := (chn_at (grs_chn h).1 hg).1; omega, take_next (grs_chn h).1 hg⟩)
  have HGE := Lib.hid (fun (i j : Nat) (g : Gr) (hg : (grs I mp M T)[i]? = some g) (hj : j ≤ g.sz) (hn : atG mp M g j = none) => atG_end h hg hj hn)
  have HGL := Lib.hid (fun (i j : Nat) (g : Gr) (y : Nat × Tk) (hg : (grs I mp M T)[i]? = some g) (hy : atG mp M g j = some y) => atG_lt h hg hy)
  have HFE := Lib.hid (fun (i : Nat) (hg : (grs I mp M T)[i]? = none) => frst_end hg)
  have hlT := hT.lt
  have hN0 := Lib.hid hn0
  have hN1 := Lib.hid hn1
  clear h hn0 hn1
  refine (callsIn_wide (n := 9)).1 ?_
  refine callsIn_of_wp_marks Tryd.func16 rfl trivial ?_ rfl
  simp only [Tryd.ntmps16, List.size_toArray, List.length_cons, List.length_nil, Nat.reduceAdd, Nat.reduceSub, Array.replicate_succ, Array.replicate_zero, List.push_toArray, List.append_toArray, List.nil_append, List.cons_append]
  refine wpIn_wide.2 ?_
  go_wp2_with (first
    | (refine wpList_box_blk (w := w) rfl 23 _ rfl _ rfl ?_; intro u1 qu1 gu1 zu1)
    | (refine Held.wpList_box_cell (w := u1) rfl 3 _ rfl (.int .i64 n) rfl rfl ?_; intro u2 q2 g2 z2; have q2 : Blk u2 u1.heap.size 3 #[.int .i64 n] := q2)
    | (refine wpList_alloc_blk (w := u2) rfl 34 rfl #[.int .i64 0, .int .i64 0, .int .i64 0, .int .i64 0, .bool false] (by kernel_rfl) ?_; intro u3 qu3 gu3 zu3)
    | (refine Held.wpList_alloc_cell (w := u3) rfl 4 rfl (.bool false) (by kernel_rfl) rfl ?_; intro u4 q4 g4 z4; have q4 : Blk u4 u3.heap.size 4 #[.bool false] := q4; have b1 : Below w.heap.size w u1 := (Below.refl _ w).grown gu1 (Nat.le_refl _) (by simp); have b2 : Below u1.heap.size u1 u2 := (Below.refl _ u1).grown g2 (Nat.le_refl _) (by simp); have b3 : Below u2.heap.size u2 u3 := (Below.refl _ u2).grown gu3 (Nat.le_refl _) (by simp); have b4 : Below u3.heap.size u3 u4 := (Below.refl _ u3).grown g4 (Nat.le_refl _) (by simp); have qp4 := ((qu1.after b2).after b3).after b4)
    | (refine wpList_load_blk (w := u4) rfl 23 _ rfl (w.heap.size) 4 rfl 23 _ qp4 _ Tryd.underlying23 rfl (by kernel_rfl) rfl ?_))
  refine (HJ.out u4).mono ?_
  rintro e u5 ⟨rfl, b5⟩
  go_wp2_with (first
    | (refine wpList_alloc_blk (w := u5) rfl 62 rfl #[.int .i64 0, .int .i64 0, .int .i64 0] (by kernel_rfl) ?_; intro u6 qu6 gu6 zu6)
    | (refine wpList_store_blk (w := u6) rfl 62 _ _ rfl (u5.heap.size) 3 rfl 62 _ #[.int .i64 k, .int .i64 (I : Int), .int .i64 (M : Int)] rfl qu6 (by kernel_rfl) rfl rfl (by kernel_rfl) ?_; intro u7 qu7 gu7 zu7; have b7 : Below u5.heap.size u5 u7 := ((Below.refl _ u5).grown gu6 (Nat.le_refl _) (by simp)).grown gu7 gu6.size (fun r e => by cases e; exact Nat.le_refl _))
    | (refine wpList_load_blk (w := u7) rfl 62 _ rfl (u5.heap.size) 3 rfl 62 _ qu7 _ Tryd.underlying62 rfl (by kernel_rfl) rfl ?_))
  refine (groups_any k I M u7).mono ?_
  rintro e u8 ⟨bq, rfl, qq, hbq, b8⟩
  have l1 : w.heap.size < u1.heap.size := qu1.lt
  have l2 : u1.heap.size < u2.heap.size := q2.lt
  have l3 : u2.heap.size < u3.heap.size := qu3.lt
  have l4 : u3.heap.size < u4.heap.size := q4.lt
  have l45 := b5.size
  have l7 : u5.heap.size < u7.heap.size := qu7.lt
  have l78 := b8.size
  have lq : bq < u8.heap.size := qq.lt
  have b58 : Below u4.heap.size u4 u8 := b5.trans ((b7.mono b5.size).trans (b8.mono (by omega)))
  have bb8 : Below w.heap.size w u8 := b1.trans ((b2.mono (by omega)).trans ((b3.mono (by omega)).trans ((b4.mono (by omega)).trans (b58.mono (by omega)))))
  have qn8 := ((q2.after b3).after b4).after b58
  have qt8 := (qu3.after b4).after b58
  have qb8 := q4.after b58
  have qj8 := qu7.after b8
  have hT8 := hT.below bb8 hlT
  have hit := HGP.out (9 - 1) bq u8 qq hT8
  have hk0 : KeepsP (fun b => b < w.heap.size) w u8 := ⟨bb8.os, bb8.tape, bb8.output, bb8.size, fun r o hr ho => (bb8.block r hr).trans ho⟩
  generalize hbn : u1.heap.size = bn at *
  generalize hbt : u2.heap.size = bt at *
  generalize hbb : u3.heap.size = bb at *
  generalize hbj : u5.heap.size = bj at *
  clear b1 b2 b3 b4 b5 b7 b8 b58 bb8 q2 q4 qu3 qu6 qu7 qp4 gu1 g2 gu3 g4 gu6 gu7 zu1 z2 zu3 z4 zu6 zu7 HGP HJ qq
  go_wp2_with fail
  refine (wpIn_wide (n := 9)).1 ?_
  refine wpIn_rangeFunc_p rfl (by omega) (gf := 54) (lb := #[.pointer (some ⟨bq, 0, none⟩)]) rfl trivial (enters_of Tryd.func54 (by kernel_rfl) rfl)
    hit (Below.refl _ _) (fun _ => rfl) (fun b hb => by rcases hb with rfl | rfl <;> omega)
    (Inn (fun _ _ _ => True) (fun b => (b = bn ∨ b = bt ∨ b = bb ∨ b = bj ∨ b = bq)) (fun b => b < w.heap.size) (fun i X => (Blk X bn 3 #[.int .i64 n] ∧ Blk X bt 34 #[.int .i64 0, .int .i64 0, .int .i64 0, .int .i64 0, .bool false] ∧ Blk X bb 4 #[.bool false] ∧ Blk X bj 62 #[.int .i64 k, .int .i64 (I : Int), .int .i64 (M : Int)] ∧ Bi.TzT X ∧ KeepsP (fun b => b < w.heap.size) w X) ∧ (n < 0 ∨ (frstA I mp M T i : Int) ≤ n)) id) (fun c pv i X => c = .ret ∧ Inn (fun _ _ _ => True) (fun b => (b = bn ∨ b = bt ∨ b = bb ∨ b = bj ∨ b = bq)) (fun b => b < w.heap.size) (fun _ X => ∃ tt, taskAt (tasksT I mp M T) n = some tt ∧ Blk X bt 34 #[.int .i64 tt.kd, .int .i64 tt.rd, .int .i64 tt.a, .int .i64 tt.b, .bool tt.up] ∧ Blk X bb 4 #[.bool true] ∧ KeepsP (fun b => b < w.heap.size) w X) id pv i X) ?hI ?hIx ?h0
    (fun pv i x a' X => ∃ bg, Inn (fun _ _ _ => True) (fun b => b = bg ∨ (b = bn ∨ b = bt ∨ b = bb ∨ b = bj ∨ b = bq)) (fun b => b < w.heap.size) (fun i X => ((Blk X bn 3 #[.int .i64 n] ∧ Blk X bt 34 #[.int .i64 0, .int .i64 0, .int .i64 0, .int .i64 0, .bool false] ∧ Blk X bb 4 #[.bool false] ∧ Blk X bj 62 #[.int .i64 k, .int .i64 (I : Int), .int .i64 (M : Int)] ∧ Bi.TzT X ∧ KeepsP (fun b => b < w.heap.size) w X) ∧ (n < 0 ∨ (frstA I mp M T i : Int) ≤ n)) ∧ Blk X bg 68 #[.int .i64 x.kd, .int .i64 x.rd, .int .i64 (x.sz : Int), .int .i64 (x.fi : Int)]) id pv i X ∧ a' = { tmps := #[.agg #[.int .i64 r, .int .i64 k, .int .i64 b, .int .i64 wk], .int .i64 n, .pointer (some ⟨w.heap.size, 0, none⟩), .pointer (some ⟨bn, 0, none⟩), .pointer (some ⟨bt, 0, none⟩), .pointer (some ⟨bb, 0, none⟩), .pointer (some ⟨bj, 0, none⟩), .pointer (some ⟨bg, 0, none⟩), undef, undef, .agg #[.int .i64 r, .int .i64 k, .int .i64 b, .int .i64 wk], .agg #[.int .i64 k, .int .i64 (I : Int), .int .i64 (M : Int)], .agg #[.int .i64 k, .int .i64 (I : Int), .int .i64 (M : Int)], .func (.func 54) #[] #[.pointer (some ⟨bq, 0, none⟩)], grV x, undef, undef, undef, undef, undef, undef, undef, undef, undef, undef, undef, undef, undef, undef, undef, undef, undef, undef, undef, undef, undef, undef, undef], defers := [] }) ?hIb ?assign ?body ?done ?stop
  case hI =>
    refine stay_inn stay_true ?_
    rintro i X X' ⟨⟨a1, a2, a3, a4, a5, a6⟩, a7⟩ kp
    exact ⟨⟨kp_blk kp a1 (by simp), kp_blk kp a2 (by simp), kp_blk kp a3 (by simp), kp_blk kp a4 (by simp), kp_tz kp a5 (.inr hlT), a6.trans (kp.less fun b hb => .inr hb)⟩, a7⟩
  case hIx =>
    refine fun c => stay_and stay_const (stay_inn stay_true ?_)
    rintro i X X' ⟨tt, a1, a2, a3, a4⟩ kp
    exact ⟨tt, a1, kp_blk kp a2 (by simp), kp_blk kp a3 (by simp), a4.trans (kp.less fun b hb => .inr hb)⟩
  case h0 =>
    refine inn_start (pvo := fun _ => True) trivial (fun _ _ => trivial) ?_ ⟨⟨qn8, qt8, qb8, qj8, hT8, hk0⟩, by rw [show frstA I mp M T 0 = 0 by simp [frstA]]; omega⟩
    intro b hb
    rcases hb with (rfl | rfl | rfl | rfl | rfl) | hb <;> omega
  case hIb =>
    rintro pv i x a' X X' b ⟨bg, h1, h2⟩ hb hg
    refine ⟨bg, (stay_inn stay_true ?_).put _ _ _ _ _ h1 hb hg, h2⟩
    rintro i X X' ⟨⟨⟨a1, a2, a3, a4, a5, a6⟩, a7⟩, a8⟩ kp
    exact ⟨⟨⟨kp_blk kp a1 (by simp), kp_blk kp a2 (by simp), kp_blk kp a3 (by simp), kp_blk kp a4 (by simp), kp_tz kp a5 (.inr hlT), a6.trans (kp.less fun b hb => .inr hb)⟩, a7⟩, kp_blk kp a8 (by simp)⟩
  case assign =>
    rintro l' pv i x X C hl' hI hat hC
    simp only [grV, List.zip_toArray, List.zip_cons_cons, List.zip_nil_right, List.foldl_toArray, List.foldl_cons, List.foldl_nil, List.setIfInBounds_toArray, List.set_cons_zero, List.set_cons_succ]
    gi_wp2_with (first
      | (refine Held.wpListIn_one (r := some l') rfl (by intro c e; cases e) ?_; refine wpList_alloc_blk (w := X) rfl 68 rfl #[.int .i64 0, .int .i64 0, .int .i64 0, .int .i64 0] (by kernel_rfl) ?_; intro X1 qX1 gX1 zX1; refine wpList_nil ⟨rfl, ?_⟩)
      | (refine Held.wpListIn_one (r := some l') rfl (by intro c e; cases e) ?_; refine wpList_store_blk (w := X1) rfl 68 _ _ rfl (X.heap.size) 4 rfl 68 _ #[.int .i64 x.kd, .int .i64 x.rd, .int .i64 (x.sz : Int), .int .i64 (x.fi : Int)] rfl qX1 (by kernel_rfl) rfl rfl (by kernel_rfl) ?_; intro X2 qX2 gX2 zX2; have bx : Below X.heap.size X X2 := ((Below.refl _ X).grown gX1 (Nat.le_refl _) (by simp)).grown gX2 gX1.size (fun r e => by cases e; exact Nat.le_refl _); refine wpList_nil ⟨rfl, ?_⟩))
    refine hC _ _ (KeepsP.of_below bx) ⟨X.heap.size, inn_more stay_true hI bx (Nat.le_refl _) qX2.lt ?_, rfl⟩
    rintro ⟨⟨a1, a2, a3, a4, a5, a6⟩, a7⟩ kp
    exact ⟨⟨⟨kp_blk kp a1 (by simp), kp_blk kp a2 (by simp), kp_blk kp a3 (by simp), kp_blk kp a4 (by simp), kp_tz kp a5 (.inr hlT), a6.trans (kp.less fun b hb => .inr hb)⟩, a7⟩, qX2⟩
  case body =>
    rintro l' pv i g a' X hl' ⟨lr, hlr⟩ ⟨bg, ⟨pvo, p1, -, p3, p4, p5, ⟨⟨qn, qt, qb, qj, hT0, kw⟩, hno⟩, qg⟩, rfl⟩ hat
    obtain ⟨hi1, hi2⟩ := HIX.out i g hat
    rw [hi1] at hno
    simp only [grV]
    have HI2 := Lib.hid hi2
    clear hi1 hi2
    have hn0 := hN0.out
    have hn1 := hN1.out
    have cn := qn.cell (i := 0) rfl
    have cg2 := qg.cell (i := 2) rfl
    have cg3 := qg.cell (i := 3) rfl
    have hnd : ∀ b, ((b = bn ∨ b = bt ∨ b = bb ∨ b = bj ∨ b = bq) ∨ b < w.heap.size) → ¬ pv b ∧ b < X.heap.size := fun b hb => p4 b (hb.elim (fun h => .inl (.inr h)) .inr)
    by_cases hA : n < (g.fi : Int)
    · -- ahead of the group
      have hdA : decide (n < (g.fi : Int)) = true := decide_eq_true hA
      have HNEG := Lib.hid (show n < 0 by omega)
      clear hno hA
      gi_wp2_with (first
        | (refine Held.wpListIn_one (r := some l') rfl (by intro c e; cases e) ?_; refine wpList_fld0 (w := X) rfl rfl rfl Tryd.underlying68 rfl (by kernel_rfl) ?_; refine wpList_nil ⟨rfl, ?_⟩))
      exact ⟨KeepsP.refl _ _, fun _ => True, fun _ _ => trivial, trivial, fun _ _ => trivial, fun b hb => hnd b hb, p5, ⟨qn, qt, qb, qj, hT0, kw⟩, .inl HNEG.out⟩
    · have hdA : decide (n < (g.fi : Int)) = false := decide_eq_false hA
      have hsub : IntKind.i64.wrap (n - (g.fi : Int)) = n - (g.fi : Int) := by rw [IntKind.wrap_i64]; omega
      have hfi : (g.fi : Int) ≤ n := by omega
      by_cases hB : (g.sz : Int) ≤ n - (g.fi : Int)
      · have hdB : decide ((g.sz : Int) ≤ n - (g.fi : Int)) = true := decide_eq_true hB
        have HB := Lib.hid hB
        clear hB hno
        gi_wp2_with (first
          | (refine Held.wpListIn_one (r := some l') rfl (by intro c e; cases e) ?_; refine wpList_fld0 (w := X) rfl rfl rfl Tryd.underlying68 rfl (by kernel_rfl) ?_; refine wpList_nil ⟨rfl, ?_⟩))
        exact ⟨KeepsP.refl _ _, fun _ => True, fun _ _ => trivial, trivial, fun _ _ => trivial, fun b hb => hnd b hb, p5, ⟨qn, qt, qb, qj, hT0, kw⟩, .inr (by show (frstA I mp M T (i + 1) : Int) ≤ n; rw [HI2.out]; have := HB.out; omega)⟩
      · have hdB : decide ((g.sz : Int) ≤ n - (g.fi : Int)) = false := decide_eq_false hB
        have HB := Lib.hid hB
        clear hB
        gi_wp2_with (first
          | (refine Held.wpListIn_one (r := some l') rfl (by intro c e; cases e) ?_; refine wpList_fld0 (w := X) rfl rfl rfl Tryd.underlying68 rfl (by kernel_rfl) ?_; refine wpList_nil ⟨rfl, ?_⟩)
          | (refine Held.wpListIn_one (r := some l') rfl (by intro c e; cases e) ?_; refine wpList_load_blk (w := X) rfl 62 _ rfl (bj) 3 rfl 62 _ qj _ Tryd.underlying62 rfl (by kernel_rfl) rfl ?_; refine wpList_nil ⟨rfl, ?_⟩)
          | (refine Held.wpListIn_one (r := some l') rfl (by intro c e; cases e) ?_; refine wpList_load_blk (w := X) rfl 68 _ rfl (bg) 4 rfl 68 _ qg _ Tryd.underlying68 rfl (by kernel_rfl) rfl ?_; refine wpList_nil ⟨rfl, ?_⟩))
        first | (refine ⟨trivial, fun h => (by cases h), ?_⟩; refine (callsIn_wide.2 (HTK.out i g hat X hT0)).mono ?_) | (refine ⟨trivial, ?_⟩; refine (callsIn_wide.2 (HTK.out i g hat X hT0)).mono ?_)
        rintro e X2 ⟨gf, lb, Nd, rfl, hent, hsq, hNd, b2⟩
        have qn2 := qn.after b2
        have qt2 := qt.after b2
        have qb2 := qb.after b2
        have qj2 := qj.after b2
        have hT2 := hT0.below b2 hT0.lt
        have kw2 := kw.trans (KeepsP.of_below b2)
        have hl2 : X2.heap[l']? = some (.loop lr) := (b2.block l' (Array.getElem?_eq_some_iff.1 hlr).1).trans hlr
        have hx2 := b2.size
        have hndn := (hnd bn (.inl (.inl rfl))).2
        have hndt := (hnd bt (.inl (.inr (.inl rfl)))).2
        have hndb := (hnd bb (.inl (.inr (.inr (.inl rfl))))).2
        have hndj := (hnd bj (.inl (.inr (.inr (.inr (.inl rfl)))))).2
        have hndq := (hnd bq (.inl (.inr (.inr (.inr (.inr rfl)))))).2
        have hwX := kw.size
        have kX2 : KeepsP (fun b => (b = bq ∨ b = 1) ∨ pv b) X X2 := KeepsP.of_below b2
        have HF := Lib.hid hfi
        clear HTK p4 p3 qn qt qb qj hT0 qg b2 hlr kw cn cg2 cg3 hdA hdB hsub hno hfi hA
        gi_wp2_with fail
        refine wpIn_rangeFunc_pN rfl hl2 (by omega) (gf := gf) (lb := lb) rfl trivial (hent)
          ((hsq _ (by omega)).inRound l') (Below.refl _ _) (fun _ => rfl) (fun b hb => by rcases hNd b hb with rfl | hb <;> omega)
          (Inn (fun _ _ _ => True) (fun b => (b = bn ∨ b = bt ∨ b = bb ∨ b = bj ∨ b = bq) ∨ pv b ∨ (X.heap.size ≤ b ∧ b < X2.heap.size)) (fun b => b < w.heap.size) (fun j Z => ((j ≤ g.sz ∧ (g.fi : Int) + (j : Int) ≤ n) ∧ (Blk Z bn 3 #[.int .i64 n] ∧ Blk Z bt 34 #[.int .i64 0, .int .i64 0, .int .i64 0, .int .i64 0, .bool false] ∧ Blk Z bb 4 #[.bool false] ∧ Blk Z bj 62 #[.int .i64 k, .int .i64 (I : Int), .int .i64 (M : Int)] ∧ Bi.TzT Z ∧ KeepsP (fun b => b < w.heap.size) w Z)) ∧ KeepsP (fun b => (b = bq ∨ b = 1) ∨ pv b) X Z) id) (fun c pv2 j Z => c = .ret ∧ Inn (fun _ _ _ => True) (fun b => (b = bn ∨ b = bt ∨ b = bb ∨ b = bj ∨ b = bq) ∨ pv b ∨ (X.heap.size ≤ b ∧ b < X2.heap.size)) (fun b => b < w.heap.size) (fun _ Z => (∃ tt, taskAt (tasksT I mp M T) n = some tt ∧ Blk Z bt 34 #[.int .i64 tt.kd, .int .i64 tt.rd, .int .i64 tt.a, .int .i64 tt.b, .bool tt.up] ∧ Blk Z bb 4 #[.bool true] ∧ KeepsP (fun b => b < w.heap.size) w Z) ∧ KeepsP (fun b => (b = bq ∨ b = 1) ∨ pv b) X Z) id pv2 j Z) ?iI ?iIx ?i0
          (fun pv2 j y a' Z => ∃ bu, Inn (fun _ _ _ => True) (fun b => b = bu ∨ ((b = bn ∨ b = bt ∨ b = bb ∨ b = bj ∨ b = bq) ∨ pv b ∨ (X.heap.size ≤ b ∧ b < X2.heap.size))) (fun b => b < w.heap.size) (fun j Z => (((j ≤ g.sz ∧ (g.fi : Int) + (j : Int) ≤ n) ∧ (Blk Z bn 3 #[.int .i64 n] ∧ Blk Z bt 34 #[.int .i64 0, .int .i64 0, .int .i64 0, .int .i64 0, .bool false] ∧ Blk Z bb 4 #[.bool false] ∧ Blk Z bj 62 #[.int .i64 k, .int .i64 (I : Int), .int .i64 (M : Int)] ∧ Bi.TzT Z ∧ KeepsP (fun b => b < w.heap.size) w Z)) ∧ KeepsP (fun b => (b = bq ∨ b = 1) ∨ pv b) X Z) ∧ Blk Z bu 34 #[.int .i64 y.2.kd, .int .i64 y.2.rd, .int .i64 y.2.a, .int .i64 y.2.b, .bool y.2.up]) id pv2 j Z ∧ a' = { tmps := #[.agg #[.int .i64 r, .int .i64 k, .int .i64 b, .int .i64 wk], .int .i64 n, .pointer (some ⟨w.heap.size, 0, none⟩), .pointer (some ⟨bn, 0, none⟩), .pointer (some ⟨bt, 0, none⟩), .pointer (some ⟨bb, 0, none⟩), .pointer (some ⟨bj, 0, none⟩), .pointer (some ⟨bg, 0, none⟩), .int .i64 (y.1 : Int), .pointer (some ⟨bu, 0, none⟩), .agg #[.int .i64 r, .int .i64 k, .int .i64 b, .int .i64 wk], .agg #[.int .i64 k, .int .i64 (I : Int), .int .i64 (M : Int)], .agg #[.int .i64 k, .int .i64 (I : Int), .int .i64 (M : Int)], .func (.func 54) #[] #[.pointer (some ⟨bq, 0, none⟩)], .agg #[.int .i64 g.kd, .int .i64 g.rd, .int .i64 (g.sz : Int), .int .i64 (g.fi : Int)], .int .i64 n, .pointer (some ⟨bg, 3, none⟩), .int .i64 (g.fi : Int), .bool false, .bool false, .int .i64 n, .pointer (some ⟨bg, 3, none⟩), .int .i64 (g.fi : Int), .int .i64 (n - (g.fi : Int)), .pointer (some ⟨bg, 2, none⟩), .int .i64 (g.sz : Int), .bool false, .bool false, .agg #[.int .i64 k, .int .i64 (I : Int), .int .i64 (M : Int)], .agg #[.int .i64 g.kd, .int .i64 g.rd, .int .i64 (g.sz : Int), .int .i64 (g.fi : Int)], .func (.func gf) #[] lb, .int .i64 (y.1 : Int), tkV y.2, undef, undef, undef, undef, undef], defers := [] }) ?iIb ?iassign ?ibody ?idone ?istop
        case iI =>
          refine stay_inn stay_true ?_
          rintro j Z Z' ⟨⟨a0, a1, a2, a3, a4, a5, a6⟩, a7⟩ kp
          exact ⟨⟨a0, kp_blk kp a1 (by simp), kp_blk kp a2 (by simp), kp_blk kp a3 (by simp), kp_blk kp a4 (by simp), kp_tz kp a5 (.inr hlT), a6.trans (kp.less fun b hb => .inr hb)⟩, a7.trans (kp.less (fun b hb => hb.elim (fun hb => hb.elim (fun e => .inl (.inl (.inr (.inr (.inr (.inr e)))))) (fun e => .inr (e ▸ hlT))) (fun hb => .inl (.inr (.inl hb)))))⟩
        case iIx =>
          refine fun c => stay_and stay_const (stay_inn stay_true ?_)
          rintro j Z Z' ⟨⟨tt, a1, a2, a3, a4⟩, a7⟩ kp
          exact ⟨⟨tt, a1, kp_blk kp a2 (by simp), kp_blk kp a3 (by simp), a4.trans (kp.less fun b hb => .inr hb)⟩, a7.trans (kp.less (fun b hb => hb.elim (fun hb => hb.elim (fun e => .inl (.inl (.inr (.inr (.inr (.inr e)))))) (fun e => .inr (e ▸ hlT))) (fun hb => .inl (.inr (.inl hb)))))⟩
        case i0 =>
          refine inn_start (pvo := fun _ => True) trivial (fun _ _ => trivial) ?_ ⟨⟨⟨Nat.zero_le _, by have := HF.out; omega⟩, qn2, qt2, qb2, qj2, hT2, kw2⟩, kX2⟩
          intro b hb
          rcases hb with ((rfl | rfl | rfl | rfl | rfl) | hb | hb) | hb
          all_goals first | omega | (have := p5 b hb; omega)
        case iIb =>
          rintro pv2 j y a' Z Z' b ⟨bu, h1, h2⟩ hb hg
          refine ⟨bu, (stay_inn stay_true ?_).put _ _ _ _ _ h1 hb hg, h2⟩
          rintro j Z Z' ⟨⟨⟨a0, a1, a2, a3, a4, a5, a6⟩, a7⟩, a8⟩ kp
          exact ⟨⟨⟨a0, kp_blk kp a1 (by simp), kp_blk kp a2 (by simp), kp_blk kp a3 (by simp), kp_blk kp a4 (by simp), kp_tz kp a5 (.inr hlT), a6.trans (kp.less fun b hb => .inr hb)⟩, a7.trans (kp.less (fun b hb => hb.elim (fun hb => hb.elim (fun e => .inl (.inr (.inl (.inr (.inr (.inr (.inr e))))))) (fun e => .inr (e ▸ hlT))) (fun hb => .inl (.inr (.inr (.inl hb))))))⟩, kp_blk kp a8 (by simp)⟩
        case iassign =>
          rintro l2 pv2 j y Z C hl2' hI hat2 hC
          simp only [encT, tkV, List.zip_toArray, List.zip_cons_cons, List.zip_nil_right, List.foldl_toArray, List.foldl_cons, List.foldl_nil, List.setIfInBounds_toArray, List.set_cons_zero, List.set_cons_succ]
          gi_wp2_with (first
            | (refine Held.wpListIn_one (r := some l2) rfl (by intro c e; cases e) ?_; refine wpList_alloc_blk (w := Z) rfl 34 rfl #[.int .i64 0, .int .i64 0, .int .i64 0, .int .i64 0, .bool false] (by kernel_rfl) ?_; intro Z1 qZ1 gZ1 zZ1; refine wpList_nil ⟨rfl, ?_⟩)
            | (refine Held.wpListIn_one (r := some l2) rfl (by intro c e; cases e) ?_; refine wpList_store_blk (w := Z1) rfl 34 _ _ rfl (Z.heap.size) 5 rfl 34 _ #[.int .i64 y.2.kd, .int .i64 y.2.rd, .int .i64 y.2.a, .int .i64 y.2.b, .bool y.2.up] rfl qZ1 (by kernel_rfl) rfl rfl (by kernel_rfl) ?_; intro Z2 qZ2 gZ2 zZ2; have bx : Below Z.heap.size Z Z2 := ((Below.refl _ Z).grown gZ1 (Nat.le_refl _) (by simp)).grown gZ2 gZ1.size (fun r e => by cases e; exact Nat.le_refl _); refine wpList_nil ⟨rfl, ?_⟩))
          refine hC _ _ (KeepsP.of_below bx) ⟨Z.heap.size, inn_more stay_true hI bx (Nat.le_refl _) qZ2.lt ?_, rfl⟩
          rintro ⟨⟨a0, a1, a2, a3, a4, a5, a6⟩, a7⟩ kp
          exact ⟨⟨⟨a0, kp_blk kp a1 (by simp), kp_blk kp a2 (by simp), kp_blk kp a3 (by simp), kp_blk kp a4 (by simp), kp_tz kp a5 (.inr hlT), a6.trans (kp.less fun b hb => .inr hb)⟩, a7.trans (kp.less (fun b hb => hb.elim (fun hb => hb.elim (fun e => .inl (.inl (.inr (.inr (.inr (.inr e)))))) (fun e => .inr (e ▸ hlT))) (fun hb => .inl (.inr (.inl hb)))))⟩, qZ2⟩
        case ibody =>
          rintro l2 pv2 j y a' Z hl2' - ⟨bu, ⟨pvi, i1, -, i3, i4, i5, ⟨⟨⟨i6, i7⟩, zn, zt, zb, zj, zT, zw⟩, zX⟩, zu⟩, rfl⟩ hat2
          obtain ⟨hjs, hy1, hy2⟩ := HGL.out i j g y hat hat2
          have cn := zn.cell (i := 0) rfl
          have j4 : ∀ b, (((b = bn ∨ b = bt ∨ b = bb ∨ b = bj ∨ b = bq) ∨ pv b ∨ (X.heap.size ≤ b ∧ b < X2.heap.size)) ∨ b < w.heap.size) → ¬ pv2 b ∧ b < Z.heap.size := fun b hb => i4 b (hb.elim (fun h => .inl (.inr h)) .inr)
          have HY2 := Lib.hid hy2
          by_cases hE : (y.1 : Int) = n
          · have hdE : decide ((y.1 : Int) = n) = true := decide_eq_true hE
            have HTA := Lib.hid (show taskAt (tasksT I mp M T) n = some y.2 from taskAt_some hy2 (by rw [← hE, hy1]))
            have HJ1 := Lib.hid hjs
            clear hE hy1 hy2 i7 i6 hjs
            gi_wp2_with (first
              | (refine Held.wpListIn_one (r := some l2) rfl (by intro c e; cases e) ?_; refine Held.wpList_run (w := Z) rfl (v := .bool true) (Held.y_eqI (S := fun _ => True) rfl rfl rfl hdE _ trivial) ?_; refine wpList_nil ⟨rfl, ?_⟩)
              | (refine Held.wpListIn_one (r := some l2) rfl (by intro c e; cases e) ?_; refine wpList_load_blk (w := Z) rfl 34 _ rfl (bu) 5 rfl 34 _ zu _ Tryd.underlying34 rfl (by kernel_rfl) rfl ?_; refine wpList_nil ⟨rfl, ?_⟩)
              | (refine Held.wpListIn_one (r := some l2) rfl (by intro c e; cases e) ?_; refine wpList_store_blk (w := Z) rfl 34 _ _ rfl (bt) 5 rfl 34 _ #[.int .i64 y.2.kd, .int .i64 y.2.rd, .int .i64 y.2.a, .int .i64 y.2.b, .bool y.2.up] rfl zt (by kernel_rfl) rfl rfl (by kernel_rfl) ?_; intro Z1 qZ1 gZ1 zZ1; have zb1 : Blk Z1 bb 4 #[.bool false] := zb.grown gZ1 (by intro e; injection e with e; omega); refine wpList_nil ⟨rfl, ?_⟩)
              | (refine Held.wpListIn_one (r := some l2) rfl (by intro c e; cases e) ?_; refine Held.wpList_store_box (w := Z1) rfl 4 _ _ rfl bb rfl 4 _ (.bool true) rfl zb1 (by kernel_rfl) rfl rfl ?_; intro Z2 qb2 gb2; have qb2 : Blk Z2 bb 4 #[.bool true] := qb2; refine wpList_nil ⟨rfl, ?_⟩))
            have qt2' := qZ1.grown gb2 (by intro e; injection e with e; omega)
            have gg : ∀ S : Nat → Prop, ¬ S bt → ¬ S bb → KeepsP S Z Z2 := fun S h1 h2 => (KeepsP.of_grown gZ1 (fun r e hr => by injection e with e; subst e; exact h1 hr)).trans (KeepsP.of_grown gb2 (fun r e hr => by injection e with e; subst e; exact h2 hr))
            have nt : ∀ b, (b = bt ∨ b = bb) → ¬ (Nd b ∨ pv2 b) := fun b hb h => h.elim (fun h => by have := hNd b h; rcases hb with rfl | rfl <;> omega) (fun h => (j4 b (.inl (.inl (hb.elim (fun e => .inr (.inl e)) (fun e => .inr (.inr (.inl e))))))).1 h)
            have nx : ∀ b, (b = bt ∨ b = bb) → ¬ ((b = bq ∨ b = 1) ∨ pv b) := fun b hb h => h.elim (fun h => by rcases hb with rfl | rfl <;> rcases h with h | h <;> omega) (fun h => (hnd b (.inl (hb.elim (fun e => .inr (.inl e)) (fun e => .inr (.inr (.inl e)))))).1 h)
            have hz2 := gZ1.size
            have hz3 := gb2.size
            exact ⟨gg _ (nt bt (.inl rfl)) (nt bb (.inr rfl)), rfl, fun _ => True, fun _ _ => trivial, trivial, fun _ _ => trivial, fun b hb => ⟨(j4 b hb).1, by have := (j4 b hb).2; omega⟩, fun b hb => by have := i5 b hb; omega, ⟨y.2, HTA.out, qt2', qb2, zw.trans (gg _ (by omega) (by omega))⟩, zX.trans (gg _ (nx bt (.inl rfl)) (nx bb (.inr rfl)))⟩
          · have hdE : decide ((y.1 : Int) = n) = false := decide_eq_false hE
            have HJ1 := Lib.hid (show j + 1 ≤ g.sz ∧ (g.fi : Int) + ((j + 1 : Nat) : Int) ≤ n by
              rw [hy1] at hE
              omega)
            clear hE hy1 hy2 i7 i6 hjs
            gi_wp2_with (first
              | (refine Held.wpListIn_one (r := some l2) rfl (by intro c e; cases e) ?_; refine Held.wpList_run (w := Z) rfl (v := .bool false) (Held.y_eqI (S := fun _ => True) rfl rfl rfl hdE _ trivial) ?_; refine wpList_nil ⟨rfl, ?_⟩))
            exact ⟨KeepsP.refl _ _, fun _ => True, fun _ _ => trivial, trivial, fun _ _ => trivial, j4, i5, ⟨HJ1.out, zn, zt, zb, zj, zT, zw⟩, zX⟩
        case idone =>
          rintro pv2 j Z hat2 ⟨pvi, i1, -, i3, i4, i5, ⟨⟨i6, i7⟩, -⟩, -⟩
          obtain rfl := HGE.out i j g hat i6 hat2
          have := HB.out
          omega
        case istop =>
          rintro c pv2 j Z ⟨rfl, pvi, i1, -, i3, i4, i5, ⟨tt, a1, a2, a3, a4⟩, a7⟩
          have hz := a7.size
          have HA1 := Lib.hid a1
          clear a1
          gi_wp2_with fail
          exact ⟨a7, rfl, fun _ => True, fun _ _ => trivial, trivial, fun _ _ => trivial, fun b hb => ⟨(hnd b hb).1, by have := (hnd b hb).2; omega⟩, fun b hb => by have := p5 b hb; omega, tt, HA1.out, a2, a3, a4⟩
  case stop =>
    rintro D cc pv i X ⟨rfl, pvo, p1, -, p3, p4, p5, tt, a1, a2, a3, a4⟩ hD hDh
    have hDw : w.heap.size ≤ D := Nat.le_of_not_lt fun h => (p4 D (.inr h)).1 hD
    have n1 : bt ≠ D := fun e => (p4 D (.inl (.inr (.inl e.symm)))).1 hD
    have n2 : bb ≠ D := fun e => (p4 D (.inl (.inr (.inr (.inl e.symm))))).1 hD
    have HA1 := Lib.hid a1
    clear a1
    gi_wp2_with fail
    refine ⟨by simp, .inl ⟨_, _, rfl, run_takeDeferred hDh, ?_⟩⟩
    refine ⟨_, results_blk_cell rfl _ _ bt bb 5 _ #[.int .i64 tt.kd, .int .i64 tt.rd, .int .i64 tt.a, .int .i64 tt.b, .bool tt.up] (.bool true) rfl rfl ((World.putObj_heap_other n1).trans a2) _ Tryd.underlying34 rfl (by kernel_rfl) rfl (by kernel_rfl) (Blk.cell (i := 0) ((World.putObj_heap_other n2).trans a3) rfl), ?_, (a4.below (Nat.le_refl _) (fun _ h => h)).grown (grownBy_putObj' X D _) a4.size (fun r e => by injection e with e; omega)⟩
    rw [HA1.out]
    rfl
  case done =>
    rintro D pv i X hat ⟨pvo, p1, -, p3, p4, p5, ⟨qn, qt, qb, qj, hT0, kw⟩, hno⟩ hD hDh
    have hDw : w.heap.size ≤ D := Nat.le_of_not_lt fun h => (p4 D (.inr h)).1 hD
    have n1 : bt ≠ D := fun e => (p4 D (.inl (.inr (.inl e.symm)))).1 hD
    have n2 : bb ≠ D := fun e => (p4 D (.inl (.inr (.inr (.inl e.symm))))).1 hD
    rw [HFE.out i hat] at hno
    have HNO := Lib.hid (taskAt_none hno)
    have hl1 := (p4 bt (.inl (.inr (.inl rfl)))).2
    have hl2 := (p4 bb (.inl (.inr (.inr (.inl rfl))))).2
    clear hno
    go_wp2_with (first
      | (refine wpList_build_blk rfl 34 #[] rfl #[.int .i64 0, .int .i64 0, .int .i64 0, .int .i64 0, .bool false] (by kernel_rfl) ?_)
      | (refine wpList_store_blk (w := X) rfl 34 _ _ rfl (bt) 5 rfl 34 _ #[.int .i64 0, .int .i64 0, .int .i64 0, .int .i64 0, .bool false] rfl qt (by kernel_rfl) rfl rfl (by kernel_rfl) ?_; intro X1 qX1 gX1 zX1; have qb1 : Blk X1 bb 4 #[.bool false] := qb.grown gX1 (by intro e; injection e with e; omega))
      | (refine Held.wpList_store_box (w := X1) rfl 4 _ _ rfl bb rfl 4 _ (.bool false) rfl qb1 (by kernel_rfl) rfl rfl ?_; intro X2 qb2 gb2; have qb2 : Blk X2 bb 4 #[.bool false] := qb2; have qt2 := qX1.grown gb2 (by intro e; injection e with e; omega); have hD2 : X2.heap[D]? = some (.deferred (some [])) := (gb2.block D (by have := (Array.getElem?_eq_some_iff.1 hDh).1; have := gX1.size; omega) (by intro e; injection e with e; omega)).trans ((gX1.block D (Array.getElem?_eq_some_iff.1 hDh).1 (by intro e; injection e with e; omega)).trans hDh)))
    refine ⟨by simp, .inl ⟨_, _, rfl, run_takeDeferred hD2, ?_⟩⟩
    have kk : Below w.heap.size w X2 := ((kw.below (Nat.le_refl _) (fun _ h => h)).grown gX1 kw.size (fun r e => by injection e with e; omega)).grown gb2 (Nat.le_trans kw.size gX1.size) (fun r e => by injection e with e; omega)
    refine ⟨_, results_blk_cell rfl _ _ bt bb 5 _ #[.int .i64 0, .int .i64 0, .int .i64 0, .int .i64 0, .bool false] (.bool false) rfl rfl ((World.putObj_heap_other n1).trans qt2) _ Tryd.underlying34 rfl (by kernel_rfl) rfl (by kernel_rfl) (Blk.cell (i := 0) ((World.putObj_heap_other n2).trans qb2) rfl), ?_, kk.grown (grownBy_putObj' X2 D _) kk.size (fun r e => by injection e with e; omega)⟩
    rw [HNO.out]
    rfl
end Go.Proofs.YtipmfficjomcoaaDoor.Sh
