/-
  Package shape's Count and Task, by their contracts.
  dominolaw17's few (public numbers with not too many blocks) and awake, by their contracts.
  What each task of a job reads and writes, who makes a spot, when a task is ready, where all stands in the end, plain: no program here.
  Tasks and spots held against each other, and the functions Same and Plain of package dominohelp on them, by their contracts.
-/
import Derived.Test.YtipmfficjomcoaaDoorB7
import Derived.Test.YtipmfficjomcoaaDoorB5
import Derived.Test.YtipmfficjomcoaaDoorB3
import Derived.Test.YtipmfficjomcoaaDoorB4
import Derived.Test.YtipmfficjomcoaaDoorB2
import Derived.Laws.StructEq
set_option linter.unusedVariables false
namespace Go.Proofs.YtipmfficjomcoaaDoor.Sh
open Go.RowKit Go.Shelf Mem Held Go.Proofs.YtipmfficjomcoaaDoor.Range Sl
attribute [local go_sem] Oper.semAt_some
attribute [local irreducible] wpList wpListIn Calls
theorem results_blk_cell {P : Program} {fn : Func} {p q : Tmp} {ty u : TypeId} (h : fn.results = #[.cell p ty, .cell q u]) (tmps : Array Value) (w : World) (g g' n : Nat) (t : TypeId) (cs : Array Value) (v : Value) (hp : tmps.getD p undef = .pointer (some ⟨g, 0, none⟩)) (hq : tmps.getD q undef = .pointer (some ⟨g', 0, none⟩))
    (hr : Blk w g t cs) (d : TypeDesc) (hu : P.underlying ty = some d) (hd : (match d with | .struct _ | .array _ _ => true | _ => false) = true) (hi : (P.info? ty).map (·.size) = some n) (hn : cs.size = n) (hpu : Held.plainT P u = true) (hc : w.cell? ⟨g', 0, none⟩ = some v) : (results fn tmps).run P w = .ok (.tuple #[.agg cs, v]) w := by
  have a1 : (asAddr (.pointer (some ⟨g, 0, none⟩))).run P w = .ok ⟨g, 0, none⟩ w := by simp [asAddr]
  have a2 : (asAddr (.pointer (some ⟨g', 0, none⟩))).run P w = .ok ⟨g', 0, none⟩ w := by simp [asAddr]
  have a3 := run_loadVar_row (P := P) w g t ty cs (0, 0) d hr hu hd (by rw [hi, hn])
  have hp2 : tmps[p]?.getD undef = .pointer (some ⟨g, 0, none⟩) := by simpa using hp
  have hq2 : tmps[q]?.getD undef = .pointer (some ⟨g', 0, none⟩) := by simpa using hq
  simp only [results, h]
  simp [Sem.run_bind, Result.andThen, hp2, hq2, a1, a2, a3, Held.run_loadVar_cell u _ w v hpu hc]
theorem tasks_length {K : Int} {I mp M T : Nat} (h : JobP K I mp M T) : (tasksT I mp M T).length = cnK I mp M T 6 := by
  rw [← grs_tasks]
  exact (grs_chn h).2
theorem frst_end {I mp M T k : Nat} (hg : (grs I mp M T)[k]? = none) : frstA I mp M T k = (tasksT I mp M T).length := by
  unfold frstA
  rw [take_end hg, grs_tasks]
theorem frst_le {K : Int} {I mp M T k : Nat} (h : JobP K I mp M T) : frstA I mp M T k ≤ 1000 := by
  have h6 := cn_le h (Nat.le_refl 6)
  rw [← tasks_length h, ← grs_tasks] at h6
  refine Nat.le_trans ?_ h6
  unfold frstA
  conv => rhs; rw [← List.take_append_drop k (grs I mp M T), List.flatMap_append, List.length_append]
  omega
def taskAt (l : List Tk) (n : Int) : Option Tk := if n < 0 then none else l[n.toNat]?
set_option maxRecDepth 100000 in
set_option maxHeartbeats 8000000 in
theorem count_any (r k b wk : Int) (hk0 : -9223372036854775808 ≤ k) (hk1 : k ≤ 9223372036854775807) (w : World) (hT : Bi.TzT w) :
    Calls Tryd.prog 14 #[.agg #[.int .i64 r, .int .i64 k, .int .i64 b, .int .i64 wk]] w fun e w' => e = .returned (.int .i64 ((tasksT (inN r k b wk) (mpN r k b wk) (mN r k b wk) (tN r k b wk)).length : Int)) ∧ Below w.heap.size w w' := by
  have h := job_of (r := r) (b := b) (wk := wk) hk0 hk1
  have HJ := Lib.hid (fun (W : World) => jobOf_any r k b wk W)
  generalize inN r k b wk = I at *
  generalize mpN r k b wk = mp at *
  generalize mN r k b wk = M at *
  generalize tN r k b wk = T at *
  clear hk0 hk1
  have HGP := Lib.hid (fun (N bq : Nat) (X : World) (q : Blk X bq 62 #[.int .i64 k, .int .i64 (I : Int), .int .i64 (M : Int)]) (hT : Bi.TzT X) => groups_p N bq k I mp M T h X q hT)
  have HIX := Lib.hid (fun (i : Nat) (g : Gr) (hg : (grs I mp M T)[i]? = some g) => show frstA I mp M T i = g.fi ∧ frstA I mp M T (i + 1) = g.fi + g.sz from ⟨by unfold frstA; have := (chn_at (grs_chn h).1 hg).1; omega, take_next (grs_chn h).1 hg⟩)
  have HFE := Lib.hid (fun (i : Nat) (hg : (grs I mp M T)[i]? = none) => frst_end hg)
  have HFL := Lib.hid (fun (i : Nat) => frst_le (k := i) h)
  have hlT := hT.lt
  clear h
  refine (callsIn_wide (n := 9)).1 ?_
  refine callsIn_of_wp_marks Tryd.func14 rfl trivial ?_ rfl
  simp only [Tryd.ntmps14, List.size_toArray, List.length_cons, List.length_nil, Nat.reduceAdd, Nat.reduceSub, Array.replicate_succ, Array.replicate_zero, List.push_toArray, List.append_toArray, List.nil_append, List.cons_append]
  refine wpIn_wide.2 ?_
  go_wp2_with (first
    | (refine wpList_box_blk (w := w) rfl 23 _ rfl _ rfl ?_; intro u1 qu1 gu1 zu1)
    | (refine Held.wpList_alloc_cell (w := u1) rfl 3 rfl (.int .i64 0) (by kernel_rfl) rfl ?_; intro u2 q2 g2 z2)
    | (refine Held.wpList_store_box (w := u2) rfl 3 _ _ rfl u1.heap.size rfl 3 _ (.int .i64 0) rfl q2 (by kernel_rfl) rfl rfl ?_; intro u3 q3 g3; have q3 : Blk u3 u1.heap.size 3 #[.int .i64 0] := q3; have b3 : Below u1.heap.size u1 u3 := ((Below.refl _ u1).grown g2 (Nat.le_refl _) (by simp)).grown g3 g2.size (fun r e => by cases e; exact Nat.le_refl _); have qp3 := qu1.after b3)
    | (refine wpList_load_blk (w := u3) rfl 23 _ rfl (w.heap.size) 4 rfl 23 _ qp3 _ Tryd.underlying23 rfl (by kernel_rfl) rfl ?_))
  refine (HJ.out u3).mono ?_
  rintro e u4 ⟨rfl, b4⟩
  go_wp2_with fail
  refine (groups_any k I M u4).mono ?_
  rintro e u5 ⟨bq, rfl, qq, hbq, b5⟩
  have qc5 := (q3.after b4).after b5
  have b1 : Below w.heap.size w u1 := (Below.refl _ w).grown gu1 (Nat.le_refl _) (by simp)
  have bb : Below w.heap.size w u5 := b1.trans ((b3.mono b1.size).trans ((b4.mono (Nat.le_trans b1.size b3.size)).trans (b5.mono (Nat.le_trans b1.size (Nat.le_trans b3.size b4.size)))))
  have hT5 := hT.below bb hlT
  have l1 : w.heap.size < u1.heap.size := qu1.lt
  have lc : u1.heap.size < u3.heap.size := q3.lt
  have l34 := b4.size
  have l45 := b5.size
  have lq : bq < u5.heap.size := qq.lt
  have hit := HGP.out (9 - 1) bq u5 qq hT5
  have hk0 : KeepsP (fun b => b < w.heap.size) w u5 := ⟨bb.os, bb.tape, bb.output, bb.size, fun r o hr ho => (bb.block r hr).trans ho⟩
  generalize hbc : u1.heap.size = bc at *
  clear b1 b3 b4 b5 bb q2 q3 qp3 gu1 g2 g3 zu1 z2 HGP HJ qq
  go_wp2_with fail
  refine (wpIn_wide (n := 9)).1 ?_
  refine wpIn_rangeFunc_p rfl (by omega) (gf := 54) (lb := #[.pointer (some ⟨bq, 0, none⟩)]) rfl trivial (enters_of Tryd.func54 (by kernel_rfl) rfl)
    hit (Below.refl _ _) (fun _ => rfl) (fun b hb => by rcases hb with rfl | rfl <;> omega)
    (Inn (fun _ _ _ => True) (fun b => b = bc ∨ b = bq) (fun b => b < w.heap.size) (fun i X => Blk X bc 3 #[.int .i64 (frstA I mp M T i : Int)] ∧ KeepsP (fun b => b < w.heap.size) w X) id) (fun _ _ _ _ => False) ?hI (fun c => stay_const) ?h0
    (fun pv i x a' X => ∃ bg, Inn (fun _ _ _ => True) (fun b => b = bg ∨ (b = bc ∨ b = bq)) (fun b => b < w.heap.size) (fun i X => (Blk X bc 3 #[.int .i64 (frstA I mp M T i : Int)] ∧ KeepsP (fun b => b < w.heap.size) w X) ∧ Blk X bg 68 #[.int .i64 x.kd, .int .i64 x.rd, .int .i64 (x.sz : Int), .int .i64 (x.fi : Int)]) id pv i X ∧ a' = { tmps := #[.agg #[.int .i64 r, .int .i64 k, .int .i64 b, .int .i64 wk], .pointer (some ⟨w.heap.size, 0, none⟩), .int .i64 0, .pointer (some ⟨bc, 0, none⟩), .pointer (some ⟨bg, 0, none⟩), .agg #[.int .i64 r, .int .i64 k, .int .i64 b, .int .i64 wk], .agg #[.int .i64 k, .int .i64 (I : Int), .int .i64 (M : Int)], .func (.func 54) #[] #[.pointer (some ⟨bq, 0, none⟩)], grV x, undef, undef, undef, undef, undef], defers := [] }) ?hIb ?assign ?body ?done ?stop
  case hI =>
    refine stay_inn stay_true ?_
    rintro i X X' ⟨a1, a2⟩ kp
    exact ⟨kp_blk kp a1 (by simp), a2.trans (kp.less fun b hb => .inr hb)⟩
  case h0 =>
    refine inn_start (pvo := fun _ => True) trivial (fun _ _ => trivial) ?_ ⟨by rw [show frstA I mp M T 0 = 0 by simp [frstA]]; exact qc5, hk0⟩
    intro b hb
    rcases hb with (rfl | rfl) | hb <;> omega
  case hIb =>
    rintro pv i x a' X X' b ⟨bg, h1, h2⟩ hb hg
    refine ⟨bg, (stay_inn stay_true ?_).put _ _ _ _ _ h1 hb hg, h2⟩
    rintro i X X' ⟨⟨a1, a2⟩, a3⟩ kp
    exact ⟨⟨kp_blk kp a1 (by simp), a2.trans (kp.less fun b hb => .inr hb)⟩, kp_blk kp a3 (by simp)⟩
  case assign =>
    rintro l' pv i x X C hl' hI hat hC
    simp only [grV, List.zip_toArray, List.zip_cons_cons, List.zip_nil_right, List.foldl_toArray, List.foldl_cons, List.foldl_nil, List.setIfInBounds_toArray, List.set_cons_zero, List.set_cons_succ]
    gi_wp2_with (first
      | (refine Held.wpListIn_one (r := some l') rfl (by intro c e; cases e) ?_; refine wpList_alloc_blk (w := X) rfl 68 rfl #[.int .i64 0, .int .i64 0, .int .i64 0, .int .i64 0] (by kernel_rfl) ?_; intro X1 qX1 gX1 zX1; refine wpList_nil ⟨rfl, ?_⟩)
      | (refine Held.wpListIn_one (r := some l') rfl (by intro c e; cases e) ?_; refine wpList_store_blk (w := X1) rfl 68 _ _ rfl (X.heap.size) 4 rfl 68 _ #[.int .i64 x.kd, .int .i64 x.rd, .int .i64 (x.sz : Int), .int .i64 (x.fi : Int)] rfl qX1 (by kernel_rfl) rfl rfl (by kernel_rfl) ?_; intro X2 qX2 gX2 zX2; have bx : Below X.heap.size X X2 := ((Below.refl _ X).grown gX1 (Nat.le_refl _) (by simp)).grown gX2 gX1.size (fun r e => by cases e; exact Nat.le_refl _); refine wpList_nil ⟨rfl, ?_⟩))
    refine hC _ _ (KeepsP.of_below bx) ⟨X.heap.size, inn_more stay_true hI bx (Nat.le_refl _) qX2.lt ?_, rfl⟩
    rintro ⟨a1, a2⟩ kp
    exact ⟨⟨kp_blk kp a1 (by simp), a2.trans (kp.less fun b hb => .inr hb)⟩, qX2⟩
  case body =>
    rintro l' pv i g a' X hl' - ⟨bg, ⟨pvo, p1, -, p3, p4, p5, ⟨qc, kw⟩, qg⟩, rfl⟩ hat
    obtain ⟨hi1, hi2⟩ := HIX.out i g hat
    have hl := HFL.out (i + 1)
    have qc : Blk X bc 3 #[.int .i64 (frstA I mp M T i : Int)] := qc
    simp only [hi1, grV] at qc ⊢
    rw [hi2] at hl
    have HI2 := Lib.hid hi2
    have hadd : IntKind.i64.wrap ((g.fi : Int) + (g.sz : Int)) = (g.fi : Int) + (g.sz : Int) := by rw [IntKind.wrap_i64]; omega
    have cc := qc.cell (i := 0) rfl
    have cg := qg.cell (i := 2) rfl
    have nc := (p4 bc (.inl (.inr (.inl rfl)))).1
    have nq := (p4 bq (.inl (.inr (.inr rfl)))).1
    clear hi1 hi2
    gi_wp2_with (first
      | (refine Held.wpListIn_one (r := some l') rfl (by intro c e; cases e) ?_; refine wpList_fld0 (w := X) rfl rfl rfl Tryd.underlying68 rfl (by kernel_rfl) ?_; refine wpList_nil ⟨rfl, ?_⟩)
      | (refine Held.wpListIn_one (r := some l') rfl (by intro c e; cases e) ?_; refine Held.wpList_store_box (w := X) rfl 3 _ _ rfl bc rfl 3 _ (.int .i64 ((g.fi : Int) + (g.sz : Int))) rfl qc (by kernel_rfl) rfl rfl ?_; intro X2 q2 g2; refine wpList_nil ⟨rfl, ?_⟩))
    have q2 : Blk X2 bc 3 #[.int .i64 ((g.fi : Int) + (g.sz : Int))] := q2
    refine ⟨KeepsP.of_grown g2 (fun b e hb => ?_), fun _ => True, fun _ _ => trivial, trivial, fun _ _ => trivial, fun b hb => ⟨?_, ?_⟩, fun b hb => Nat.lt_of_lt_of_le (p5 b hb) g2.size, ?_, kw.trans (KeepsP.of_grown g2 (fun b e hb => ?_))⟩
    · injection e with e
      subst e
      rcases hb with hb | hb
      · rcases hb with rfl | rfl <;> omega
      · exact nc hb
    · rcases hb with hb | hb
      · exact (p4 b (.inl (.inr hb))).1
      · exact (p4 b (.inr hb)).1
    · rcases hb with hb | hb
      · exact Nat.lt_of_lt_of_le (p4 b (.inl (.inr hb))).2 g2.size
      · exact Nat.lt_of_lt_of_le (p4 b (.inr hb)).2 g2.size
    · show Blk X2 bc 3 #[.int .i64 (frstA I mp M T (i + 1) : Int)]
      rw [HI2.out]
      exact q2
    · injection e with e
      subst e
      omega
  case stop => exact fun _ _ _ _ _ h => h.elim
  case done =>
    rintro D pv i X hat ⟨pvo, p1, -, p3, p4, p5, qc, kw⟩ hD hDh
    have qc : Blk X bc 3 #[.int .i64 (frstA I mp M T i : Int)] := qc
    rw [HFE.out i hat] at qc
    have cc := qc.cell (i := 0) rfl
    have hDw : w.heap.size ≤ D := Nat.le_of_not_lt fun h => (p4 D (.inr h)).1 hD
    go_wp2_with fail
    refine ⟨by simp, .inl ⟨_, _, rfl, run_takeDeferred hDh, ?_⟩⟩
    exact ⟨_, results_tmp rfl _ _ _, rfl, (kw.below (Nat.le_refl _) (fun _ h => h)).grown (grownBy_putObj' X D _) kw.size (fun r e => by injection e with e; omega)⟩
end Go.Proofs.YtipmfficjomcoaaDoor.Sh
namespace Go.Proofs.YtipmfficjomcoaaDoor.Sh
open Go.RowKit Go.Shelf Mem Held Go.Proofs.YtipmfficjomcoaaDoor.Range Sl
attribute [local go_sem] Oper.semAt_some
attribute [local irreducible] wpList wpListIn Calls
theorem right_less {r x k b wk : Int} (h : Sp.rightB r k b wk = true) (h1 : 1 ≤ x) (hx : x ≤ r) : Sp.rightB x k b wk = true := by
  obtain ⟨⟨a1, a2⟩, ⟨a3, a4⟩, ⟨a5, a6⟩, ⟨a7, a8⟩, _, a9, a10⟩ := right_says h
  have hm : (x + b - 1) / b ≤ (r + b - 1) / b := Int.ediv_le_ediv (by omega) (by omega)
  have := Int.mul_le_mul_of_nonneg_left hm (show 0 ≤ k by omega)
  rw [Sp.rightB_of]
  have e1 : Sp.inB x 64 = true := by simp [Sp.inB]; omega
  have e2 : Sp.inB k 4 = true := by simp [Sp.inB]; omega
  have e3 : Sp.inB b 8 = true := by simp [Sp.inB]; omega
  have e4 : Sp.inB wk 4 = true := by simp [Sp.inB]; omega
  rw [e1, e2, e3, e4, decide_eq_true (show k * ((x + b - 1) / b) < 32 by omega)]
  rfl
def cellN (w : World) (g : Nat) : Nat := match w.cell? ⟨g, 0, none⟩ with
  | some v => (intOf v).toNat
  | none => 0
theorem cellN_of {w : World} {g : Nat} {z : Int} (h : w.cell? ⟨g, 0, none⟩ = some (.int .i64 z)) : cellN w g = z.toNat := by
  unfold cellN
  rw [h]
  rfl
def Few (r k b wk x : Int) : Prop := (Sp.rightB r k b wk = false ∧ x = r) ∨ (Sp.rightB r k b wk = true ∧ Sp.rightB x k b wk = true ∧ k * ((x + b - 1) / b) ≤ 7)
set_option maxRecDepth 100000 in
set_option maxHeartbeats 8000000 in
theorem few_any (r k b wk : Int) (w : World) :
    Calls Tryd.prog 8 #[.agg #[.int .i64 r, .int .i64 k, .int .i64 b, .int .i64 wk]] w fun e w' => ∃ x, e = .returned (.agg #[.int .i64 x, .int .i64 k, .int .i64 b, .int .i64 wk]) ∧ Few r k b wk x ∧ Below w.heap.size w w' := by
  by_cases hR : Sp.rightB r k b wk = true
  case neg =>
    have HR := Lib.hid (show Sp.rightE r k b wk = 1 by rw [Sp.rightE, if_neg hR])
    have HF := Lib.hid (show Few r k b wk r from .inl ⟨by simpa using hR, rfl⟩)
    clear hR
    go_enter Tryd.func8, Tryd.ntmps8
    go_wp2_with (first
      | (refine wpList_box_blk (w := w) rfl 23 _ rfl _ rfl ?_; intro u1 qu1 gu1 zu1)
      | (refine wpList_alloc_blk (w := u1) rfl 23 rfl #[.int .i64 0, .int .i64 0, .int .i64 0, .int .i64 0] (by kernel_rfl) ?_; intro u2 qu2 gu2 zu2; have qp := qu1.grown gu2 (by simp); have bo2 : Below w.heap.size w u2 := ((Below.refl _ w).grown gu1 (Nat.le_refl _) (by simp)).grown gu2 gu1.size (by simp))
      | (refine wpList_load_blk (w := u2) rfl 23 _ rfl (w.heap.size) 4 rfl 23 _ qp _ Tryd.underlying23 rfl (by kernel_rfl) rfl ?_))
    refine (rright_any r k b wk u2).mono ?_
    rintro e w3 ⟨rfl, b3⟩
    rw [HR.out]
    have qp3 := qp.after b3
    have qr3 := qu2.after b3
    have bo3 := bo2.trans (b3.mono bo2.size)
    have hs3 := bo3.size
    have hu1 := gu1.size
    go_wp2_with (first
      | (refine wpList_load_blk (w := w3) rfl 23 _ rfl (w.heap.size) 4 rfl 23 _ qp3 _ Tryd.underlying23 rfl (by kernel_rfl) rfl ?_)
      | (refine wpList_store_blk (w := w3) rfl 23 _ _ rfl (u1.heap.size) 4 rfl 23 _ #[.int .i64 r, .int .i64 k, .int .i64 b, .int .i64 wk] rfl qr3 (by kernel_rfl) rfl rfl (by kernel_rfl) ?_; intro u9 qu9 gu9 zu9))
    exact bodyPost_ret (results_blk rfl _ _ u1.heap.size 4 _ _ rfl qu9 _ Tryd.underlying23 rfl (by kernel_rfl) rfl) rfl ⟨_, rfl, HF.out, bo3.grown gu9 hs3 (fun r e => by cases e; exact hu1)⟩
  case pos =>
    have HR := Lib.hid (show Sp.rightE r k b wk = 0 by rw [Sp.rightE, if_pos hR])
    have HRR := Lib.hid hR
    have hsay := right_says hR
    have hk := hsay.2.1
    have hb := hsay.2.2.1
    have hr := hsay.1
    have hb0 : b ≠ 0 := by omega
    clear hsay hR
    go_enter Tryd.func8, Tryd.ntmps8
    go_wp2_with (first
      | (refine wpList_box_blk (w := w) rfl 23 _ rfl _ rfl ?_; intro u1 qu1 gu1 zu1)
      | (refine wpList_alloc_blk (w := u1) rfl 23 rfl #[.int .i64 0, .int .i64 0, .int .i64 0, .int .i64 0] (by kernel_rfl) ?_; intro u2 qu2 gu2 zu2; have qp := qu1.grown gu2 (by simp); have bo2 : Below w.heap.size w u2 := ((Below.refl _ w).grown gu1 (Nat.le_refl _) (by simp)).grown gu2 gu1.size (by simp))
      | (refine wpList_load_blk (w := u2) rfl 23 _ rfl (w.heap.size) 4 rfl 23 _ qp _ Tryd.underlying23 rfl (by kernel_rfl) rfl ?_))
    refine (rright_any r k b wk u2).mono ?_
    rintro e w3 ⟨rfl, b3⟩
    rw [HR.out]
    have qp3 := qp.after b3
    have qr3 := qu2.after b3
    have bo3 := bo2.trans (b3.mono bo2.size)
    have hu1 : w.heap.size < u1.heap.size := qu1.lt
    clear qp qu2 bo2 b3 gu1 gu2 zu1 zu2 qu1 HR
    go_wp2_with fail
    go_loopw [] (fun wr => ∃ x, 1 ≤ x ∧ x ≤ r ∧ Blk wr w.heap.size 23 #[.int .i64 x, .int .i64 k, .int .i64 b, .int .i64 wk] ∧ Blk wr u1.heap.size 23 #[.int .i64 0, .int .i64 0, .int .i64 0, .int .i64 0] ∧ Below w.heap.size w wr) (fun wr => cellN wr w.heap.size)
    case atStart => exact ⟨r, hr.1, Int.le_refl _, qp3, qr3, bo3⟩
    case round =>
      clear qp3 qr3 bo3
      obtain ⟨x, hx1, hxr, qp, qr, bw⟩ := hrel
      have HRX := Lib.hid (right_less HRR.out hx1 hxr)
      have E1 := Lib.hid (show IntKind.i64.wrap (x + b) = x + b by rw [IntKind.wrap_i64]; omega)
      have E2 := Lib.hid (show IntKind.i64.wrap (x + b - 1) = x + b - 1 by rw [IntKind.wrap_i64]; omega)
      have hsx := right_says HRX.out
      have E3 := Lib.hid (show IntKind.i64.wrap ((x + b - 1).tdiv b) = (x + b - 1) / b by
        rw [show (x + b - 1).tdiv b = (x + b - 1) / b from Int.tdiv_eq_ediv_of_nonneg (by omega), IntKind.wrap_i64]; omega)
      have E4 := Lib.hid (show IntKind.i64.wrap (k * ((x + b - 1) / b)) = k * ((x + b - 1) / b) by rw [IntKind.wrap_i64]; omega)
      have hu9 : w.heap.size ≤ u1.heap.size := Nat.le_of_lt hu1
      by_cases h1 : 1 < x
      · have hd1 := Lib.hid (show decide (1 < x) = true from decide_eq_true h1)
        by_cases h7 : 7 < k * ((x + b - 1) / b)
        · have hd2 := Lib.hid (show decide (7 < k * ((x + b - 1) / b)) = true from decide_eq_true h7)
          have hsub : IntKind.i64.wrap (x - 1) = x - 1 := by rw [IntKind.wrap_i64]; omega
          have cx : wr.cell? ⟨w.heap.size, 0, none⟩ = some (.int .i64 x) := qp.cell (i := 0) rfl
          clear hsx h7
          go_wp2_with fail
          refine wp_region_held (S := fun W => Below wr.heap.size wr W) (by kernel_rfl) ?_
          change wpAnyH _ _ _ _ _ _ _ _ wr.drew
          have c0_0 := (Below.refl wr.heap.size wr).drew
          refine Held.tk (v := .pointer (some ⟨w.heap.size, 0, none⟩)) 0 (some 6) rfl (Held.y_field (k := 0) (s := 0) rfl rfl Tryd.underlying23 rfl (by kernel_rfl) rfl) c0_0 ?_
          simp only [Act.put, Z1, Z2, Z3]
          refine Held.tk (v := .int .i64 x) 1 (some 7) rfl (Held.y_load rfl rfl (by kernel_rfl) (fun W hW => (qp.after hW).cell rfl)) c0_0 ?_
          simp only [Act.put, Z1, Z2, Z3]
          refine Held.tk (v := .bool true) 2 (some 8) rfl (Held.y_gtr rfl rfl rfl (hd1.out)) c0_0 ?_
          simp only [Act.put, Z1, Z2, Z3]
          refine Held.tk (v := .bool true) 3 (some 9) rfl (Held.y_move rfl rfl) c0_0 ?_
          simp only [Act.put, Z1, Z2, Z3]
          refine Held.tk (v := .pointer (some ⟨w.heap.size, 1, none⟩)) 4 (some 10) rfl (Held.y_field (k := 1) (s := 0) rfl rfl Tryd.underlying23 rfl (by kernel_rfl) rfl) c0_0 ?_
          simp only [Act.put, Z1, Z2, Z3]
          refine Held.tk (v := .int .i64 k) 5 (some 11) rfl (Held.y_load rfl rfl (by kernel_rfl) (fun W hW => (qp.after hW).cell rfl)) c0_0 ?_
          simp only [Act.put, Z1, Z2, Z3]
          refine Held.tk (v := .pointer (some ⟨w.heap.size, 0, none⟩)) 6 (some 12) rfl (Held.y_field (k := 0) (s := 0) rfl rfl Tryd.underlying23 rfl (by kernel_rfl) rfl) c0_0 ?_
          simp only [Act.put, Z1, Z2, Z3]
          refine Held.tk (v := .int .i64 x) 7 (some 13) rfl (Held.y_load rfl rfl (by kernel_rfl) (fun W hW => (qp.after hW).cell rfl)) c0_0 ?_
          simp only [Act.put, Z1, Z2, Z3]
          refine Held.tk (v := .pointer (some ⟨w.heap.size, 2, none⟩)) 8 (some 14) rfl (Held.y_field (k := 2) (s := 0) rfl rfl Tryd.underlying23 rfl (by kernel_rfl) rfl) c0_0 ?_
          simp only [Act.put, Z1, Z2, Z3]
          refine Held.tk (v := .int .i64 b) 9 (some 15) rfl (Held.y_load rfl rfl (by kernel_rfl) (fun W hW => (qp.after hW).cell rfl)) c0_0 ?_
          simp only [Act.put, Z1, Z2, Z3]
          refine Held.tk (v := .int .i64 ((x + b))) 10 (some 16) rfl (Held.y_int rfl rfl rfl (Held.run_add 3 .i64 (E1.out))) c0_0 ?_
          simp only [Act.put, Z1, Z2, Z3]
          refine Held.tk (v := .int .i64 ((x + b - 1))) 11 (some 17) rfl (Held.y_int rfl rfl rfl (Held.run_sub 3 .i64 (E2.out))) c0_0 ?_
          simp only [Act.put, Z1, Z2, Z3]
          refine Held.tk (v := .pointer (some ⟨w.heap.size, 2, none⟩)) 12 (some 18) rfl (Held.y_field (k := 2) (s := 0) rfl rfl Tryd.underlying23 rfl (by kernel_rfl) rfl) c0_0 ?_
          simp only [Act.put, Z1, Z2, Z3]
          refine Held.tk (v := .int .i64 b) 13 (some 19) rfl (Held.y_load rfl rfl (by kernel_rfl) (fun W hW => (qp.after hW).cell rfl)) c0_0 ?_
          simp only [Act.put, Z1, Z2, Z3]
          refine Held.tk (v := .int .i64 ((x + b - 1) / b)) 14 (some 20) rfl (Bi.y_quo (x + b - 1) b rfl rfl rfl (Held.run_quo 3 .i64 hb0 E3.out)) c0_0 ?_
          simp only [Act.put, Z1, Z2, Z3]
          refine Held.tk (v := .int .i64 ((k * ((x + b - 1) / b)))) 15 (some 21) rfl (Held.y_int rfl rfl rfl (Held.run_mul 3 .i64 (E4.out))) c0_0 ?_
          simp only [Act.put, Z1, Z2, Z3]
          refine Held.tk (v := .bool true) 16 (some 22) rfl (Held.y_gtr rfl rfl rfl (hd2.out)) c0_0 ?_
          simp only [Act.put, Z1, Z2, Z3]
          refine Held.tk (v := .bool true) 17 (some 23) rfl (Held.y_pick rfl rfl rfl) c0_0 ?_
          simp only [Act.put, Z1, Z2, Z3]
          refine wpAnyH_done (by kernel_rfl) ?_ _
          have bz := bw.trans (c0_0.mono bw.size)
          have qp2 := qp.after c0_0
          have qr2 := qr.after c0_0
          have hsz := c0_0.size
          have cx2 := qp2.cell (i := 0) rfl
          go_wp2_with (first
            | (refine wpList_fld0 (w := wr.drew) rfl rfl rfl Tryd.underlying23 rfl (by kernel_rfl) ?_)
            | (refine Held.wpList_store_field (w := wr.drew) rfl 3 _ _ rfl w.heap.size 0 rfl 23 _ (.int .i64 (x - 1)) rfl qp2 (by simp) (by kernel_rfl) rfl rfl ?_; intro v2 q2 g2 z2))
          have q2 : Blk v2 w.heap.size 23 #[.int .i64 (x - 1), .int .i64 k, .int .i64 b, .int .i64 wk] := q2
          have cv : v2.cell? ⟨w.heap.size, 0, none⟩ = some (.int .i64 (x - 1)) := q2.cell (i := 0) rfl
          simp only [Act.put]
          go_roundw
          case rel => exact ⟨x - 1, by omega, by omega, q2, qr2.grown g2 (by intro e; injection e with e; omega), bz.grown g2 bz.size (fun r e => by cases e; exact Nat.le_refl _)⟩
          case measure => rw [cellN_of cx, cellN_of cv]; omega
        · have hd2 := Lib.hid (show decide (7 < k * ((x + b - 1) / b)) = false from decide_eq_false h7)
          have HF := Lib.hid (show Few r k b wk x from .inr ⟨HRR.out, HRX.out, by omega⟩)
          clear hsx h7
          go_wp2_with fail
          refine wp_region_held (S := fun W => Below wr.heap.size wr W) (by kernel_rfl) ?_
          change wpAnyH _ _ _ _ _ _ _ _ wr.drew
          have c0_0 := (Below.refl wr.heap.size wr).drew
          refine Held.tk (v := .pointer (some ⟨w.heap.size, 0, none⟩)) 0 (some 6) rfl (Held.y_field (k := 0) (s := 0) rfl rfl Tryd.underlying23 rfl (by kernel_rfl) rfl) c0_0 ?_
          simp only [Act.put, Z1, Z2, Z3]
          refine Held.tk (v := .int .i64 x) 1 (some 7) rfl (Held.y_load rfl rfl (by kernel_rfl) (fun W hW => (qp.after hW).cell rfl)) c0_0 ?_
          simp only [Act.put, Z1, Z2, Z3]
          refine Held.tk (v := .bool true) 2 (some 8) rfl (Held.y_gtr rfl rfl rfl (hd1.out)) c0_0 ?_
          simp only [Act.put, Z1, Z2, Z3]
          refine Held.tk (v := .bool true) 3 (some 9) rfl (Held.y_move rfl rfl) c0_0 ?_
          simp only [Act.put, Z1, Z2, Z3]
          refine Held.tk (v := .pointer (some ⟨w.heap.size, 1, none⟩)) 4 (some 10) rfl (Held.y_field (k := 1) (s := 0) rfl rfl Tryd.underlying23 rfl (by kernel_rfl) rfl) c0_0 ?_
          simp only [Act.put, Z1, Z2, Z3]
          refine Held.tk (v := .int .i64 k) 5 (some 11) rfl (Held.y_load rfl rfl (by kernel_rfl) (fun W hW => (qp.after hW).cell rfl)) c0_0 ?_
          simp only [Act.put, Z1, Z2, Z3]
          refine Held.tk (v := .pointer (some ⟨w.heap.size, 0, none⟩)) 6 (some 12) rfl (Held.y_field (k := 0) (s := 0) rfl rfl Tryd.underlying23 rfl (by kernel_rfl) rfl) c0_0 ?_
          simp only [Act.put, Z1, Z2, Z3]
          refine Held.tk (v := .int .i64 x) 7 (some 13) rfl (Held.y_load rfl rfl (by kernel_rfl) (fun W hW => (qp.after hW).cell rfl)) c0_0 ?_
          simp only [Act.put, Z1, Z2, Z3]
          refine Held.tk (v := .pointer (some ⟨w.heap.size, 2, none⟩)) 8 (some 14) rfl (Held.y_field (k := 2) (s := 0) rfl rfl Tryd.underlying23 rfl (by kernel_rfl) rfl) c0_0 ?_
          simp only [Act.put, Z1, Z2, Z3]
          refine Held.tk (v := .int .i64 b) 9 (some 15) rfl (Held.y_load rfl rfl (by kernel_rfl) (fun W hW => (qp.after hW).cell rfl)) c0_0 ?_
          simp only [Act.put, Z1, Z2, Z3]
          refine Held.tk (v := .int .i64 ((x + b))) 10 (some 16) rfl (Held.y_int rfl rfl rfl (Held.run_add 3 .i64 (E1.out))) c0_0 ?_
          simp only [Act.put, Z1, Z2, Z3]
          refine Held.tk (v := .int .i64 ((x + b - 1))) 11 (some 17) rfl (Held.y_int rfl rfl rfl (Held.run_sub 3 .i64 (E2.out))) c0_0 ?_
          simp only [Act.put, Z1, Z2, Z3]
          refine Held.tk (v := .pointer (some ⟨w.heap.size, 2, none⟩)) 12 (some 18) rfl (Held.y_field (k := 2) (s := 0) rfl rfl Tryd.underlying23 rfl (by kernel_rfl) rfl) c0_0 ?_
          simp only [Act.put, Z1, Z2, Z3]
          refine Held.tk (v := .int .i64 b) 13 (some 19) rfl (Held.y_load rfl rfl (by kernel_rfl) (fun W hW => (qp.after hW).cell rfl)) c0_0 ?_
          simp only [Act.put, Z1, Z2, Z3]
          refine Held.tk (v := .int .i64 ((x + b - 1) / b)) 14 (some 20) rfl (Bi.y_quo (x + b - 1) b rfl rfl rfl (Held.run_quo 3 .i64 hb0 E3.out)) c0_0 ?_
          simp only [Act.put, Z1, Z2, Z3]
          refine Held.tk (v := .int .i64 ((k * ((x + b - 1) / b)))) 15 (some 21) rfl (Held.y_int rfl rfl rfl (Held.run_mul 3 .i64 (E4.out))) c0_0 ?_
          simp only [Act.put, Z1, Z2, Z3]
          refine Held.tk (v := .bool false) 16 (some 22) rfl (Held.y_gtr rfl rfl rfl (hd2.out)) c0_0 ?_
          simp only [Act.put, Z1, Z2, Z3]
          refine Held.tk (v := .bool false) 17 (some 23) rfl (Held.y_pick rfl rfl rfl) c0_0 ?_
          simp only [Act.put, Z1, Z2, Z3]
          refine wpAnyH_done (by kernel_rfl) ?_ _
          have bz := bw.trans (c0_0.mono bw.size)
          have qp2 := qp.after c0_0
          have qr2 := qr.after c0_0
          have hsz := c0_0.size
          go_wp2_with (first
            | (refine wpList_load_blk (w := wr.drew) rfl 23 _ rfl (w.heap.size) 4 rfl 23 _ qp2 _ Tryd.underlying23 rfl (by kernel_rfl) rfl ?_)
            | (refine wpList_store_blk (w := wr.drew) rfl 23 _ _ rfl (u1.heap.size) 4 rfl 23 _ #[.int .i64 x, .int .i64 k, .int .i64 b, .int .i64 wk] rfl qr2 (by kernel_rfl) rfl rfl (by kernel_rfl) ?_; intro u9 qu9 gu9 zu9))
          exact bodyPost_ret (results_blk rfl _ _ u1.heap.size 4 _ _ rfl qu9 _ Tryd.underlying23 rfl (by kernel_rfl) rfl) rfl ⟨_, rfl, HF.out, bz.grown gu9 bz.size (fun r e => by cases e; exact hu9)⟩
      · have hd1 := Lib.hid (show decide (1 < x) = false from decide_eq_false h1)
        have hd2 := hd1
        obtain rfl : x = 1 := by omega
        have HF := Lib.hid (show Few r k b wk 1 from .inr ⟨HRR.out, HRX.out, by
          rw [show (1 : Int) + b - 1 = b by omega, Int.ediv_self hb0]
          omega⟩)
        clear hsx h1
        go_wp2_with fail
        refine wp_region_held (S := fun W => Below wr.heap.size wr W) (by kernel_rfl) ?_
        change wpAnyH _ _ _ _ _ _ _ _ wr.drew
        have c0_0 := (Below.refl wr.heap.size wr).drew
        refine Held.tk (v := .pointer (some ⟨w.heap.size, 0, none⟩)) 0 (some 6) rfl (Held.y_field (k := 0) (s := 0) rfl rfl Tryd.underlying23 rfl (by kernel_rfl) rfl) c0_0 ?_
        simp only [Act.put, Z1, Z2, Z3]
        refine Held.tk (v := .int .i64 1) 1 (some 7) rfl (Held.y_load rfl rfl (by kernel_rfl) (fun W hW => (qp.after hW).cell rfl)) c0_0 ?_
        simp only [Act.put, Z1, Z2, Z3]
        refine Held.tk (v := .bool false) 2 (some 8) rfl (Held.y_gtr rfl rfl rfl (hd1.out)) c0_0 ?_
        simp only [Act.put, Z1, Z2, Z3]
        refine Held.tk (v := .bool false) 3 (some 9) rfl (Held.y_move rfl rfl) c0_0 ?_
        simp only [Act.put, Z1, Z2, Z3]
        refine Held.skip 4 (some 10) rfl rfl (by kernel_rfl) (by kernel_rfl) (by kernel_rfl) (fun _ _ _ h => h) rfl c0_0 ?_
        simp only [Act.put, Z1, Z2, Z3]
        refine Held.skip 5 (some 11) rfl rfl (by kernel_rfl) (by kernel_rfl) (by kernel_rfl) (fun _ _ _ h => h) rfl c0_0 ?_
        simp only [Act.put, Z1, Z2, Z3]
        refine Held.skip 6 (some 12) rfl rfl (by kernel_rfl) (by kernel_rfl) (by kernel_rfl) (fun _ _ _ h => h) rfl c0_0 ?_
        simp only [Act.put, Z1, Z2, Z3]
        refine Held.skip 7 (some 13) rfl rfl (by kernel_rfl) (by kernel_rfl) (by kernel_rfl) (fun _ _ _ h => h) rfl c0_0 ?_
        simp only [Act.put, Z1, Z2, Z3]
        refine Held.skip 8 (some 14) rfl rfl (by kernel_rfl) (by kernel_rfl) (by kernel_rfl) (fun _ _ _ h => h) rfl c0_0 ?_
        simp only [Act.put, Z1, Z2, Z3]
        refine Held.skip 9 (some 15) rfl rfl (by kernel_rfl) (by kernel_rfl) (by kernel_rfl) (fun _ _ _ h => h) rfl c0_0 ?_
        simp only [Act.put, Z1, Z2, Z3]
        refine Held.skip 10 (some 16) rfl rfl (by kernel_rfl) (by kernel_rfl) (by kernel_rfl) (fun _ _ _ h => h) rfl c0_0 ?_
        simp only [Act.put, Z1, Z2, Z3]
        refine Held.skip 11 (some 17) rfl rfl (by kernel_rfl) (by kernel_rfl) (by kernel_rfl) (fun _ _ _ h => h) rfl c0_0 ?_
        simp only [Act.put, Z1, Z2, Z3]
        refine Held.skip 12 (some 18) rfl rfl (by kernel_rfl) (by kernel_rfl) (by kernel_rfl) (fun _ _ _ h => h) rfl c0_0 ?_
        simp only [Act.put, Z1, Z2, Z3]
        refine Held.skip 13 (some 19) rfl rfl (by kernel_rfl) (by kernel_rfl) (by kernel_rfl) (fun _ _ _ h => h) rfl c0_0 ?_
        simp only [Act.put, Z1, Z2, Z3]
        refine Held.skip 14 (some 20) rfl rfl (by kernel_rfl) (by kernel_rfl) (by kernel_rfl) (fun _ _ _ h => h) rfl c0_0 ?_
        simp only [Act.put, Z1, Z2, Z3]
        refine Held.skip 15 (some 21) rfl rfl (by kernel_rfl) (by kernel_rfl) (by kernel_rfl) (fun _ _ _ h => h) rfl c0_0 ?_
        simp only [Act.put, Z1, Z2, Z3]
        refine Held.skip 16 (some 22) rfl rfl (by kernel_rfl) (by kernel_rfl) (by kernel_rfl) (fun _ _ _ h => h) rfl c0_0 ?_
        simp only [Act.put, Z1, Z2, Z3]
        refine Held.tk (v := (.bool false)) 17 (some 23) rfl (Held.y_pickF rfl rfl rfl) c0_0 ?_
        simp only [Act.put, Z1, Z2, Z3]
        refine wpAnyH_done (by kernel_rfl) ?_ _
        have bz := bw.trans (c0_0.mono bw.size)
        have qp2 := qp.after c0_0
        have qr2 := qr.after c0_0
        have hsz := c0_0.size
        go_wp2_with (first
          | (refine wpList_load_blk (w := wr.drew) rfl 23 _ rfl (w.heap.size) 4 rfl 23 _ qp2 _ Tryd.underlying23 rfl (by kernel_rfl) rfl ?_)
          | (refine wpList_store_blk (w := wr.drew) rfl 23 _ _ rfl (u1.heap.size) 4 rfl 23 _ #[.int .i64 1, .int .i64 k, .int .i64 b, .int .i64 wk] rfl qr2 (by kernel_rfl) rfl rfl (by kernel_rfl) ?_; intro u9 qu9 gu9 zu9))
        exact bodyPost_ret (results_blk rfl _ _ u1.heap.size 4 _ _ rfl qu9 _ Tryd.underlying23 rfl (by kernel_rfl) rfl) rfl ⟨_, rfl, HF.out, bz.grown gu9 bz.size (fun r e => by cases e; exact hu9)⟩
set_option maxRecDepth 100000 in
set_option maxHeartbeats 4000000 in
theorem awake17_any (w : World) (hT : Bi.TzT w) : Calls Tryd.prog 12 #[] w fun e w' => e = .returned (.bool true) ∧ Below w.heap.size w w' := by
  have H := fun W hT => count_any 1 1 1 1 (by omega) (by omega) W hT
  have e : (tasksT (inN 1 1 1 1) (mpN 1 1 1 1) (mN 1 1 1 1) (tN 1 1 1 1)).length = 6 := by decide +kernel
  rw [e] at H
  go_enter Tryd.func12, Tryd.ntmps12
  go_wp2_with (first
    | (refine wpList_build_blk rfl 23 #[_, _, _, _] rfl #[.int .i64 1, .int .i64 1, .int .i64 1, .int .i64 1] (by kernel_rfl) ?_))
  refine (H w hT).mono ?_
  rintro e w1 ⟨rfl, b1⟩
  go_wp2_with fail
  go_ret
  exact ⟨rfl, b1⟩
end Go.Proofs.YtipmfficjomcoaaDoor.Sh
namespace Go.Proofs.YtipmfficjomcoaaDoor.Sh
open Go.RowKit Go.Shelf Mem Held Sl
def behP (first phase r a : Int) : Sp := if r = 0 then ⟨first, 0, a⟩ else ⟨phase, r, a⟩
def readsT (T : Int) (t : Tk) : List Sp :=
  if t.kd = 1 then [⟨0, 0, t.a⟩]
  else if t.kd = 3 then [behP 1 2 (t.rd - 1) t.a, behP 1 2 (t.rd - 1) t.b]
  else if t.kd = 4 then behP 1 2 T t.a :: (if 0 < t.a then [⟨4, 0, t.a - 1⟩] else [])
  else if t.kd = 5 then [behP 3 5 (t.rd - 1) t.a, behP 3 5 (t.rd - 1) t.b]
  else []
def phasesT (kd : Int) : List Int := if kd = 1 ∨ kd = 2 then [1] else if kd = 3 then [2] else if kd = 4 then [3, 4] else if kd = 5 then [5] else []
def addrsT (K : Int) (t : Tk) : List Int := if t.kd = 1 then (List.range K.toNat).map (fun i : Nat => K * t.a + (i : Int)) else if t.kd = 3 ∨ t.kd = 5 then [t.a, t.b] else [t.a]
def writesT (K : Int) (t : Tk) : List Sp := (phasesT t.kd).flatMap fun ph => (addrsT K t).map fun ad => ⟨ph, t.rd, ad⟩
def mkF (K : Int) (s : Sp) : Nat → List Tk → Int
  | _, [] => -1
  | n, t :: l => if s ∈ writesT K t then (n : Int) else mkF K s (n + 1) l
def makesT (K : Int) (l : List Tk) (s : Sp) : Int := mkF K s 0 l
theorem mkF_some (K : Int) (s : Sp) : ∀ (l : List Tk) (c i : Nat) (t : Tk), l[i]? = some t → s ∈ writesT K t → (∀ (j : Nat) (u : Tk), j < i → l[j]? = some u → s ∉ writesT K u) → mkF K s c l = ((c + i : Nat) : Int)
  | [], _, _, _, h, _, _ => by simp at h
  | t :: l, c, 0, u, h, hs, _ => by
    simp at h
    subst h
    unfold mkF
    rw [if_pos hs]
    simp
  | t :: l, c, i + 1, u, h, hs, hn => by
    unfold mkF
    rw [if_neg (hn 0 t (by omega) (by simp)), mkF_some K s l (c + 1) i u (by simpa using h) hs (fun j v hj hv => hn (j + 1) v (by omega) (by simpa using hv))]
    congr 1
    omega
theorem mkF_none (K : Int) (s : Sp) : ∀ (l : List Tk) (c : Nat), (∀ (j : Nat) (u : Tk), l[j]? = some u → s ∉ writesT K u) → mkF K s c l = -1
  | [], _, _ => rfl
  | t :: l, c, hn => by
    unfold mkF
    rw [if_neg (hn 0 t (by simp)), mkF_none K s l (c + 1) (fun j v hv => hn (j + 1) v (by simpa using hv))]
theorem makesT_some {K : Int} {s : Sp} {l : List Tk} {i : Nat} {t : Tk} (h : l[i]? = some t) (hs : s ∈ writesT K t) (hn : ∀ (j : Nat) (u : Tk), j < i → l[j]? = some u → s ∉ writesT K u) : makesT K l s = (i : Int) := by
  have := mkF_some K s l 0 i t h hs hn
  rwa [Nat.zero_add] at this
theorem makesT_none {K : Int} {s : Sp} {l : List Tk} (hn : ∀ (j : Nat) (u : Tk), l[j]? = some u → s ∉ writesT K u) : makesT K l s = -1 := mkF_none K s l 0 hn
theorem mkF_le (K : Int) (s : Sp) : ∀ (l : List Tk) (c : Nat), -1 ≤ mkF K s c l ∧ mkF K s c l < ((c + l.length : Nat) : Int)
  | [], c => by unfold mkF; exact ⟨by omega, by omega⟩
  | t :: l, c => by
    have := mkF_le K s l (c + 1)
    unfold mkF
    simp only [List.length_cons]
    split <;> omega
theorem makesT_le (K : Int) (l : List Tk) (s : Sp) : -1 ≤ makesT K l s ∧ makesT K l s < (l.length : Int) := by
  have := mkF_le K s l 0
  unfold makesT
  omega
def thereT (K : Int) (l : List Tk) (done : List Bool) (s : Sp) : Bool := decide (makesT K l s < 0) || (decide (makesT K l s < (done.length : Int)) && done.getD (makesT K l s).toNat false)
def readyT (K : Int) (l : List Tk) (T : Int) (done : List Bool) (t : Option Tk) : Bool := match t with
  | none => false
  | some t => (readsT T t).all (thereT K l done)
def lastT (M : Nat) (T : Int) : List Sp := (List.range M).map fun a : Nat => behP 3 5 T (a : Int)
def readsO (T : Int) (t : Option Tk) : List Sp := match t with
  | none => []
  | some t => readsT T t
def writesO (K : Int) (t : Option Tk) : List Sp := match t with
  | none => []
  | some t => writesT K t
structure TkB (t : Tk) : Prop where
  k1 : 1 ≤ t.kd
  k5 : t.kd ≤ 5
  r0 : 0 ≤ t.rd
  r15 : t.rd ≤ 15
  a0 : 0 ≤ t.a
  a99 : t.a ≤ 100
  b0 : 0 ≤ t.b
  b99 : t.b ≤ 100000
  one : t.kd = 1 ∨ t.kd = 2 ∨ t.kd = 4 → t.rd = 0
  net : t.kd = 3 ∨ t.kd = 5 → 1 ≤ t.rd
theorem TkB.wf {t : Tk} (h : TkB t) : t.wf := by
  obtain ⟨h1, h2, h3, h4, h5, h6, h7, h8, _, _⟩ := h
  refine ⟨?_, ?_, ?_, ?_⟩ <;> simp [Lit.wf, IntKind.min, IntKind.max, IntKind.signed, IntKind.bits] <;> omega
section
variable {K : Int} {I mp M T : Nat}
theorem one_b {kd : Int} (h : kd = 1 ∨ kd = 2 ∨ kd = 4) {a : Nat} (ha : a ≤ 100) : TkB (oneT kd a) := by
  refine ⟨?_, ?_, ?_, ?_, ?_, ?_, ?_, ?_, fun _ => rfl, ?_⟩ <;> simp only [oneT] <;> omega
theorem sorts_b (h : JobP K I mp M T) {kd : Int} (hk : kd = 3 ∨ kd = 5) {t : Tk} (ht : t ∈ sortsT kd M T) : TkB t := by
  unfold sortsT roundT at ht
  obtain ⟨r, hr, ht⟩ := List.mem_flatMap.1 ht
  obtain ⟨a, ha, rfl⟩ := List.mem_map.1 ht
  have hr := List.mem_range.1 hr
  have haM : a < M := by
    unfold Net.firsts at ha
    have := (List.mem_filter.1 ha).1
    simpa using this
  have h15 := h.t15
  have h32 := h.m32
  have hs := Bi.two_16 (show (stT r).2 - 1 ≤ 16 by
    have := (h.round hr).is rfl
    omega)
  have hp := Bi.two_pos ((stT r).2 - 1)
  refine ⟨?_, ?_, ?_, ?_, ?_, ?_, ?_, ?_, ?_, ?_⟩ <;> simp only [pairT] <;> omega
theorem tasks_b (h : JobP K I mp M T) {t : Tk} (ht : t ∈ tasksT I mp M T) : TkB t := by
  have h1 := h.le
  have h2 := h.m32
  have h3 := h.i32
  unfold tasksT at ht
  simp only [List.mem_append] at ht
  rcases ht with (((ht | ht) | ht) | ht) | ht
  · obtain ⟨a, ha, rfl⟩ := List.mem_map.1 ht
    have := List.mem_range.1 ha
    exact one_b (.inl rfl) (by omega)
  · obtain ⟨a, ha, rfl⟩ := List.mem_map.1 ht
    have := List.mem_range.1 ha
    exact one_b (.inr (.inl rfl)) (by omega)
  · exact sorts_b h (.inl rfl) ht
  · obtain ⟨a, ha, rfl⟩ := List.mem_map.1 ht
    have := List.mem_range.1 ha
    exact one_b (.inr (.inr rfl)) (by omega)
  · exact sorts_b h (.inr rfl) ht
theorem tasks_bi (h : JobP K I mp M T) {i : Nat} {t : Tk} (ht : (tasksT I mp M T)[i]? = some t) : TkB t := tasks_b h (List.mem_of_getElem? ht)
end
theorem sp_mk {p r a : Int} (h1 : (Lit.int .i64 p).wf = true) (h2 : (Lit.int .i64 r).wf = true) (h3 : (Lit.int .i64 a).wf = true) : (⟨p, r, a⟩ : Sp).wf := ⟨h1, h2, h3⟩
theorem behP_wf {f p r a : Int} (hf : (Lit.int .i64 f).wf = true) (hp : (Lit.int .i64 p).wf = true) (hr : (Lit.int .i64 r).wf = true) (ha : (Lit.int .i64 a).wf = true) : (behP f p r a).wf := by
  unfold behP
  split
  · exact sp_mk hf (by decide) ha
  · exact sp_mk hp hr ha
theorem lit_wf {z : Int} (h0 : -9223372036854775808 ≤ z) (h1 : z ≤ 9223372036854775807) : (Lit.int .i64 z).wf = true := by simp [Lit.wf, IntKind.min, IntKind.max, IntKind.signed, IntKind.bits]; omega
theorem reads_wf {T : Int} {t : Tk} (h : TkB t) (h0 : 0 ≤ T) (h1 : T ≤ 15) : ∀ s ∈ readsT T t, s.wf := by
  obtain ⟨k1, k5, r0, r15, a0, a99, b0, b99, _, _⟩ := h
  have z : ∀ z : Int, -1 ≤ z → z ≤ 100000 → (Lit.int .i64 z).wf = true := fun z h h' => lit_wf (by omega) (by omega)
  intro s hs
  unfold readsT at hs
  split at hs
  · rw [List.mem_singleton] at hs
    subst hs
    exact sp_mk (z _ (by omega) (by omega)) (z _ (by omega) (by omega)) (z _ (by omega) (by omega))
  · split at hs
    · simp only [List.mem_cons, List.not_mem_nil, or_false] at hs
      rcases hs with rfl | rfl <;> exact behP_wf (z _ (by omega) (by omega)) (z _ (by omega) (by omega)) (z _ (by omega) (by omega)) (z _ (by omega) (by omega))
    · split at hs
      · rcases List.mem_cons.1 hs with rfl | hs
        · exact behP_wf (z _ (by omega) (by omega)) (z _ (by omega) (by omega)) (z _ (by omega) (by omega)) (z _ (by omega) (by omega))
        · split at hs
          · rw [List.mem_singleton] at hs
            subst hs
            exact sp_mk (z _ (by omega) (by omega)) (z _ (by omega) (by omega)) (z _ (by omega) (by omega))
          · simp at hs
      · split at hs
        · simp only [List.mem_cons, List.not_mem_nil, or_false] at hs
          rcases hs with rfl | rfl <;> exact behP_wf (z _ (by omega) (by omega)) (z _ (by omega) (by omega)) (z _ (by omega) (by omega)) (z _ (by omega) (by omega))
        · simp at hs
theorem last_wf {M : Nat} {T : Int} (h0 : 0 ≤ T) (h1 : T ≤ 15) (hM : M ≤ 32) : ∀ s ∈ lastT M T, s.wf := by
  intro s hs
  obtain ⟨a, ha, rfl⟩ := List.mem_map.1 hs
  have := List.mem_range.1 ha
  exact behP_wf (by decide) (by decide) (lit_wf (by omega) (by omega)) (lit_wf (by omega) (by omega))
theorem addrs_wf {K : Int} {t : Tk} (h : TkB t) (hK : t.kd = 1 → 0 ≤ K ∧ K ≤ 4) : ∀ z ∈ addrsT K t, (Lit.int .i64 z).wf = true := by
  obtain ⟨k1, k5, r0, r15, a0, a99, b0, b99, _, _⟩ := h
  intro z hz
  unfold addrsT at hz
  split at hz
  · rename_i hk
    obtain ⟨h0, h4⟩ := hK hk
    obtain ⟨i, hi, rfl⟩ := List.mem_map.1 hz
    have := List.mem_range.1 hi
    have h1 : 0 ≤ K * t.a := Int.mul_nonneg h0 a0
    have h2 : K * t.a ≤ 4 * 100 := Int.mul_le_mul h4 a99 a0 (by omega)
    exact lit_wf (by omega) (by omega)
  · split at hz
    · simp only [List.mem_cons, List.not_mem_nil, or_false] at hz
      rcases hz with rfl | rfl <;> exact lit_wf (by omega) (by omega)
    · rw [List.mem_singleton] at hz
      subst hz
      exact lit_wf (by omega) (by omega)
theorem phases_mem {kd z : Int} (hz : z ∈ phasesT kd) : 1 ≤ z ∧ z ≤ 5 := by
  unfold phasesT at hz
  split at hz
  · simp at hz; omega
  · split at hz
    · simp at hz; omega
    · split at hz
      · simp at hz; omega
      · split at hz
        · simp at hz; omega
        · simp at hz
theorem writes_wf {K : Int} {t : Tk} (h : TkB t) (hK : t.kd = 1 → 0 ≤ K ∧ K ≤ 4) : ∀ s ∈ writesT K t, s.wf := by
  intro s hs
  unfold writesT at hs
  obtain ⟨ph, hp, hs⟩ := List.mem_flatMap.1 hs
  obtain ⟨ad, ha, rfl⟩ := List.mem_map.1 hs
  have := phases_mem hp
  have h3 := h.r0
  have h4 := h.r15
  exact sp_mk (lit_wf (by omega) (by omega)) (lit_wf (by omega) (by omega)) (addrs_wf h hK ad ha)
theorem mem_writes {K : Int} {t : Tk} {s : Sp} : s ∈ writesT K t ↔ t.rd = s.rd ∧ s.ph ∈ phasesT t.kd ∧ s.ad ∈ addrsT K t := by
  unfold writesT
  constructor
  · intro h
    obtain ⟨ph, hp, h⟩ := List.mem_flatMap.1 h
    obtain ⟨ad, ha, rfl⟩ := List.mem_map.1 h
    exact ⟨rfl, hp, ha⟩
  · rintro ⟨h1, h2, h3⟩
    exact List.mem_flatMap.2 ⟨s.ph, h2, List.mem_map.2 ⟨s.ad, h3, by rw [h1]⟩⟩
theorem writes_length {K : Int} {t : Tk} (hK : t.kd = 1 → 0 ≤ K ∧ K ≤ 4) : (writesT K t).length ≤ 4 := by
  unfold writesT
  rw [List.length_flatMap]
  simp only [List.length_map]
  have ha : (addrsT K t).length ≤ 4 := by
    unfold addrsT
    split
    · rename_i hk
      have := hK hk
      simp
      omega
    · split <;> simp
  unfold phasesT
  split
  · simp; exact ha
  · split
    · simp; exact ha
    · split
      · rename_i h1 h2 h3
        unfold addrsT
        rw [if_neg (by omega), if_neg (by omega)]
        simp
      · split
        · simp; exact ha
        · simp
theorem reads_length (T : Int) (t : Tk) : (readsT T t).length ≤ 2 := by
  unfold readsT
  split
  · simp
  · split
    · simp
    · split
      · split <;> simp
      · split <;> simp
end Go.Proofs.YtipmfficjomcoaaDoor.Sh
namespace Go.Proofs.YtipmfficjomcoaaDoor.Sh
open Go.RowKit Go.Shelf Mem Held Rs Sl
attribute [local irreducible] wpList wpListIn Calls
section
variable {S : World → Prop} {ρ : Operand → Value} {o : Oper}
end
theorem Sp_iff {a b : Sp} : a = b ↔ a.ph = b.ph ∧ a.rd = b.rd ∧ a.ad = b.ad := ⟨fun e => by rw [e]; exact ⟨rfl, rfl, rfl⟩, fun h => Sp.ext' h.1 h.2.1 h.2.2⟩
theorem key_Sp (w : World) (a b : Sp) :
    (Op.equalIn 10000 42 (.agg #[.int .i64 a.ph, .int .i64 a.rd, .int .i64 a.ad]) (.agg #[.int .i64 b.ph, .int .i64 b.rd, .int .i64 b.ad])).run Tryd.prog w = .ok (decide (a.ph = b.ph ∧ a.rd = b.rd ∧ a.ad = b.ad)) w := by
  have hu : Tryd.prog.underlying 42 = some (.struct (Tryd.prog.fieldsOf 42)) := by kernel_rfl
  have hp : Tryd.prog.stoodInHeld 42 = false := by kernel_rfl
  have ej : ∀ (d : Nat) (k : IntKind) (x y : Int), (Op.equalIn (d + 1) 3 (.int k x) (.int k y)).run Tryd.prog w = .ok (x == y) w := fun d k x y => run_equalIn_int w d 3 k .i64 x y Tryd.underlying3
  rw [show (10000 : Nat) = 9998 + 1 + 1 from rfl, run_equalIn_agg w (9998 + 1) _ _ _ hu hp]
  simp only [Program.fieldsOf, Tryd.underlying42, Op.eqFields, Go.part, isAgg, Sem.run_bind, run_underlying Tryd.underlying3, Result.andThen_ok, Sem.run_pure, Sem.run_ite]
  simp [ej]
  by_cases h0 : a.ph = b.ph <;> by_cases h1 : a.rd = b.rd <;> by_cases h2 : a.ad = b.ad <;> simp [h0, h1, h2]
theorem eql_Sp (w : World) (a b : Sp) : (binOp .eql 42 (.agg #[.int .i64 a.ph, .int .i64 a.rd, .int .i64 a.ad]) (.agg #[.int .i64 b.ph, .int .i64 b.rd, .int .i64 b.ad])).run Tryd.prog w = .ok (.bool (decide (a.ph = b.ph ∧ a.rd = b.rd ∧ a.ad = b.ad))) w := by
  rw [run_eql_struct, key_Sp]
  rfl
section
variable {S : World → Prop} {ρ : Operand → Value} {o : Oper}
theorem y_eqS {ty : TypeId} {x y : Operand} {a b : Sp} {r : Bool} (ho : o.op = .binOp .eql 42 x y ty) (hx : ρ x = .agg #[.int .i64 a.ph, .int .i64 a.rd, .int .i64 a.ad]) (hy : ρ y = .agg #[.int .i64 b.ph, .int .i64 b.rd, .int .i64 b.ad])
    (hr : decide (a.ph = b.ph ∧ a.rd = b.rd ∧ a.ad = b.ad) = r) : ∀ w, S w → (execOp ρ o).run Tryd.prog w = .ok (.value (.bool r)) w :=
  Held.y_bin ho hx hy (fun w => by simp [eqGuard, show Tryd.prog.eqGuardType Tryd.prog.depth 42 = false by kernel_rfl]) (fun w => by rw [← hr]; exact eql_Sp w a b)
end
set_option maxRecDepth 100000 in
set_option maxHeartbeats 4000000 in
theorem inS_any (B : Nat) (A : Option Addr) (n c : Nat) (rs : List Sp) (x : Sp) (w : World) (h : Lst kS w B A n rs) (hB : B ≤ w.heap.size) (hn : n ≤ 1073741824) :
    Calls Tryd.prog 28 #[.slice A n c, .agg #[.int .i64 x.ph, .int .i64 x.rd, .int .i64 x.ad]] w fun e w' => e = .returned (.bool (decide (x ∈ rs))) ∧ Below w.heap.size w w' := by
  have HL := Lib.hid h.1
  go_enter Tryd.func28, Tryd.ntmps28
  go_wp2_with (first
    | (refine wpList_box_blk (w := w) rfl 42 _ rfl _ rfl ?_; intro w1 q1 g1 z1))
  have b1 : Below w.heap.size w w1 := (Below.refl _ w).grown g1 (Nat.le_refl _) (by simp)
  clear g1 z1
  go_loopw [5] (fun i wr => ∃ k : Nat, k ≤ n ∧ i = .int .i64 k ∧ Below w.heap.size w wr ∧ Blk wr w.heap.size 42 #[.int .i64 x.ph, .int .i64 x.rd, .int .i64 x.ad] ∧ Hid (x ∉ rs.take k)) (fun i _ => n - (intOf i).toNat)
  case atStart => exact ⟨0, by omega, rfl, b1, q1, Lib.hid (by simp)⟩
  case round =>
    clear b1 q1
    obtain ⟨k, hk, rfl, hst, qx, ht⟩ := hrel
    have hBk := Nat.le_trans hB hst.size
    by_cases hlt : k < n
    · obtain ⟨b, off, rfl, hb, hx⟩ := (h.below (hst.mono hB)).at_ hlt
      have hx : wr.rangeAt b (off + k * 3) (rs.getD k S0).cells := hx
      have hlt' : (k : Int) < (n : Int) := by omega
      have hk0 : (0 : Int) ≤ (k : Int) := by omega
      have hkl : k < rs.length := by have := HL.out; omega
      have hge : rs.getD k S0 = rs[k] := by simp [List.getD_eq_getElem?_getD, List.getElem?_eq_getElem hkl]
      by_cases hq0 : rs.getD k S0 = x
      · have HF := Lib.hid (show decide (x ∈ rs) = true by rw [decide_eq_true_iff, ← hq0, hge]; exact List.getElem_mem hkl)
        have hq : decide (rs.getD k S0 = x) = true := by simpa using hq0
        clear hq0 hge
        generalize rs.getD k S0 = y at hx hq
        have HR := Lib.hid (show decide (y.ph = x.ph ∧ y.rd = x.rd ∧ y.ad = x.ad) = decide (y = x) from decide_eq_decide.2 Sp_iff.symm)
        go_wp2_with fail
        refine wp_region_held (S := fun W => Below wr.heap.size wr W) (by kernel_rfl) ?_
        change wpAnyH _ _ _ _ _ _ _ _ wr.drew
        have c0_0 := (Below.refl wr.heap.size wr).drew
        refine Held.tk (v := .slice (some ⟨b, off, none⟩) n c) 0 (some 12) rfl (Held.y_move rfl rfl) c0_0 ?_
        simp only [Act.put, Z1, Z2, Z3]
        refine Held.tk (v := .int .i64 (k : Int)) 1 (some 13) rfl (Held.y_move rfl rfl) c0_0 ?_
        simp only [Act.put, Z1, Z2, Z3]
        refine Held.tk (v := .pointer (some ⟨b, off + k * 3, none⟩)) 2 (some 14) rfl (Held.y_addr rfl rfl rfl (run_addr_of 47 42 b off n c k 3 .i64 Tryd.underlying47 (by kernel_rfl) hlt)) c0_0 ?_
        simp only [Act.put, Z1, Z2, Z3]
        refine Held.tk (v := .agg #[.int .i64 y.ph, .int .i64 y.rd, .int .i64 y.ad]) 3 (some 15) rfl (y_load_range (n := 3) (cs := y.cells) rfl rfl Tryd.underlying42 rfl (by kernel_rfl) rfl (fun W hW => range_below hx hW (Nat.lt_of_lt_of_le hb hBk))) c0_0 ?_
        simp only [Act.put, Z1, Z2, Z3]
        refine Held.tk (v := .agg #[.int .i64 x.ph, .int .i64 x.rd, .int .i64 x.ad]) 4 (some 16) rfl (Held.y_load_blk (n := 3) rfl rfl Tryd.underlying42 rfl (by kernel_rfl) rfl (fun W hW => qx.after hW)) c0_0 ?_
        simp only [Act.put, Z1, Z2, Z3]
        refine Held.tk (v := .bool true) 5 (some 17) rfl (y_eqS rfl rfl rfl (HR.out.trans hq)) c0_0 ?_
        simp only [Act.put, Z1, Z2, Z3]
        refine wpAnyH_done (by kernel_rfl) ?_ _
        have dz := hst.trans (c0_0.mono hst.size)
        have qz := qx.after c0_0
        generalize wr.drew = wz at dz qz ⊢
        clear hx c0_0 qx
        go_wp2_with fail
        go_ret
        exact ⟨Mem.ret_bool HF.out.symm, dz⟩
      · have HT := Lib.hid (show x ∉ rs.take (k + 1) by
          rw [List.take_add_one, List.getElem?_eq_getElem hkl, List.mem_append]
          rintro (h1 | h1)
          · exact ht.out h1
          · simp at h1; exact hq0 (by rw [hge, h1]))
        have hq : decide (rs.getD k S0 = x) = false := by simpa using hq0
        clear hq0 hge
        generalize rs.getD k S0 = y at hx hq
        have HR := Lib.hid (show decide (y.ph = x.ph ∧ y.rd = x.rd ∧ y.ad = x.ad) = decide (y = x) from decide_eq_decide.2 Sp_iff.symm)
        go_wp2_with fail
        refine wp_region_held (S := fun W => Below wr.heap.size wr W) (by kernel_rfl) ?_
        change wpAnyH _ _ _ _ _ _ _ _ wr.drew
        have c0_0 := (Below.refl wr.heap.size wr).drew
        refine Held.tk (v := .slice (some ⟨b, off, none⟩) n c) 0 (some 12) rfl (Held.y_move rfl rfl) c0_0 ?_
        simp only [Act.put, Z1, Z2, Z3]
        refine Held.tk (v := .int .i64 (k : Int)) 1 (some 13) rfl (Held.y_move rfl rfl) c0_0 ?_
        simp only [Act.put, Z1, Z2, Z3]
        refine Held.tk (v := .pointer (some ⟨b, off + k * 3, none⟩)) 2 (some 14) rfl (Held.y_addr rfl rfl rfl (run_addr_of 47 42 b off n c k 3 .i64 Tryd.underlying47 (by kernel_rfl) hlt)) c0_0 ?_
        simp only [Act.put, Z1, Z2, Z3]
        refine Held.tk (v := .agg #[.int .i64 y.ph, .int .i64 y.rd, .int .i64 y.ad]) 3 (some 15) rfl (y_load_range (n := 3) (cs := y.cells) rfl rfl Tryd.underlying42 rfl (by kernel_rfl) rfl (fun W hW => range_below hx hW (Nat.lt_of_lt_of_le hb hBk))) c0_0 ?_
        simp only [Act.put, Z1, Z2, Z3]
        refine Held.tk (v := .agg #[.int .i64 x.ph, .int .i64 x.rd, .int .i64 x.ad]) 4 (some 16) rfl (Held.y_load_blk (n := 3) rfl rfl Tryd.underlying42 rfl (by kernel_rfl) rfl (fun W hW => qx.after hW)) c0_0 ?_
        simp only [Act.put, Z1, Z2, Z3]
        refine Held.tk (v := .bool false) 5 (some 17) rfl (y_eqS rfl rfl rfl (HR.out.trans hq)) c0_0 ?_
        simp only [Act.put, Z1, Z2, Z3]
        refine wpAnyH_done (by kernel_rfl) ?_ _
        have dz := hst.trans (c0_0.mono hst.size)
        have qz := qx.after c0_0
        generalize wr.drew = wz at dz qz ⊢
        clear hx c0_0 qx
        go_wp2_with fail
        go_roundw
        case rel => exact ⟨k + 1, by omega, by go_num, dz, qz, HT⟩
        case measure => simp [intOf]; omega
    · have HF := Lib.hid (show decide (x ∈ rs) = false by
        have e1 := ht.out
        rw [List.take_of_length_le (by have := HL.out; omega)] at e1
        simpa using e1)
      go_wp2_with fail
      go_ret
      exact ⟨Mem.ret_bool HF.out.symm, hst⟩
end Go.Proofs.YtipmfficjomcoaaDoor.Sh
