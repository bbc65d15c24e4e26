/-
  Package spec's within, blocks and Right, by their contracts.
  More steps of a region: a struct allocated, a list of structs built: no program here.
  Package vm's Map, by its contract.
  Package spec's iterator over the records that are not dead, by its contract.
  The library's contract of slices.SortFunc, laid at this program by the library's own tool.
-/
import Derived.Test.YtjhpbpoldedldaaB5
import Derived.Test.YtjhpbpoldedldaaB4
import Derived.Test.YtjhpbpoldedldaaB1
import Derived.Test.YtjhpbpoldedldaaB3
import Derived.Shelf.SlGeneric
import Derived.Shelf.SlSortCmp.WholeK
import Derived.Ground.SlsfProg
import Derived.Test.YtjhpbpoldedldaaProg
set_option linter.unusedVariables false
namespace Go.Proofs.Ytjhpbpoldedldaa.Sp
open Go.RowKit Go.Shelf Go.Proofs.Ytjhpbpoldedldaa Mem Held Rc Rs Sl Vm
attribute [local irreducible] wpList wpListIn Calls
section
variable {P : Program} {S : World → Prop} {ρ : Operand → Value} {o : Oper}
theorem y_geq {t ty : TypeId} {x y : Operand} {k : IntKind} {a b : Int} {r : Bool} (ho : o.op = .binOp .geq t x y ty) (hx : ρ x = .int k a) (hy : ρ y = .int k b) (hr : decide (b ≤ a) = r) : ∀ w, S w → (execOp ρ o).run P w = .ok (.value (.bool r)) w :=
  Held.y_bin ho hx hy (fun w => by simp [eqGuard]) (fun w => by subst hr; simp [binOp, Op.intCmp])
end
def inB (n most : Int) : Bool := decide (1 ≤ n) && decide (n ≤ most)
set_option maxHeartbeats 1000000 in
theorem within_any (n most : Int) (b : Bool) (hb : inB n most = b) (w : World) :
    Calls Try.prog 17 #[.int .i64 n, .int .i64 most] w fun e w' => e = .returned (.bool b) ∧ w = w' := by
  subst hb
  go_enter Try.func17, Try.ntmps17
  by_cases h1 : n ≥ 1
  · by_cases h2 : n ≤ most
    · go_wp2_with fail
      go_ret
      exact ⟨Mem.ret_bool (by simp [inB, h2]; omega), rfl⟩
    · go_wp2_with fail
      go_ret
      exact ⟨Mem.ret_bool (by simp [inB, h2]), rfl⟩
  · go_wp2_with fail
    go_ret
    exact ⟨Mem.ret_bool (by simp [inB]; omega), rfl⟩
theorem size_params : (Try.prog.info? 33).map (·.size) = some 4 := by kernel_rfl
set_option maxHeartbeats 2000000 in
theorem blocks_any (r k b wk : Int) (hr1 : 1 ≤ r) (hr : r ≤ 64) (hb1 : 1 ≤ b) (hb : b ≤ 8) (w : World) :
    Calls Try.prog 18 #[.agg #[.int .i64 r, .int .i64 k, .int .i64 b, .int .i64 wk]] w fun e w' => e = .returned (.int .i64 ((r + b - 1) / b)) ∧ Below w.heap.size w w' := by
  have e1 : IntKind.i64.wrap (r + b) = r + b := by rw [IntKind.wrap_i64]; omega
  have e2 : IntKind.i64.wrap (r + b - 1) = r + b - 1 := by rw [IntKind.wrap_i64]; omega
  have hb0 : ¬ b = 0 := by omega
  have hb0' : b ≠ 0 := by omega
  have e3 : Int.tdiv (r + b - 1) b = (r + b - 1) / b := Int.tdiv_eq_ediv_of_nonneg (by omega)
  have e4 : IntKind.i64.wrap ((r + b - 1) / b) = (r + b - 1) / b := by
    have h1 : 0 ≤ (r + b - 1) / b := Int.ediv_nonneg (by omega) (by omega)
    have h2 : (r + b - 1) / b ≤ r + b - 1 := Int.ediv_le_self _ (by omega)
    rw [IntKind.wrap_i64]
    omega
  go_enter Try.func18, Try.ntmps18
  go_wp2_with (first
    | (refine wpList_box_blk (w := w) rfl 33 _ rfl #[.int .i64 r, .int .i64 k, .int .i64 b, .int .i64 wk] rfl ?_; intro w1 q1 g1 z1; have hc0 := q1.cell (i := 0) rfl; have hc2 := q1.cell (i := 2) rfl; have b1 : Below w.heap.size w w1 := (Below.refl _ w).grown g1 (Nat.le_refl _) (by simp); clear g1 z1 q1)
    | (refine wpList_run (w := w1) rfl (v := .pointer (some ⟨w.heap.size, 0, none⟩)) (Held.y_field (S := fun _ => True) (k := 0) (s := 0) rfl rfl Try.underlying33 rfl (by kernel_rfl) rfl _ trivial) ?_)
    | (refine wpList_run (w := w1) rfl (v := .pointer (some ⟨w.heap.size, 2, none⟩)) (Held.y_field (S := fun _ => True) (k := 2) (s := 0) rfl rfl Try.underlying33 rfl (by kernel_rfl) rfl _ trivial) ?_))
  go_ret
  exact ⟨rfl, b1⟩
theorem rightB_of (r k b wk : Int) : rightB r k b wk = (inB r 64 && inB k 4 && inB b 8 && inB wk 4 && decide (k * ((r + b - 1) / b) < 32)) := by
  simp [rightB, inB]
theorem inB_says {n most : Int} (h : inB n most = true) : 1 ≤ n ∧ n ≤ most := by simpa [inB] using h
set_option maxRecDepth 100000 in
set_option maxHeartbeats 8000000 in
theorem right_any (r k b wk : Int) (w : World) :
    Calls Try.prog 12 #[.agg #[.int .i64 r, .int .i64 k, .int .i64 b, .int .i64 wk]] w fun e w' => e = .returned (.int .i64 (rightE r k b wk)) ∧ Below w.heap.size w w' := by
  go_enter Try.func12, Try.ntmps12
  have HE := Lib.hid (show rightE r k b wk = if (inB r 64 && inB k 4 && inB b 8 && inB wk 4 && decide (k * ((r + b - 1) / b) < 32)) = true then 0 else 1 by rw [← rightB_of]; rfl)
  rw [HE.out]
  clear HE
  obtain ⟨B1, h1⟩ : ∃ B, inB r 64 = B := ⟨_, rfl⟩
  obtain ⟨B2, h2⟩ : ∃ B, inB k 4 = B := ⟨_, rfl⟩
  obtain ⟨B3, h3⟩ : ∃ B, inB b 8 = B := ⟨_, rfl⟩
  obtain ⟨B4, h4⟩ : ∃ B, inB wk 4 = B := ⟨_, rfl⟩
  rw [h1, h2, h3, h4]
  have H1 := Lib.hid h1
  have H2 := Lib.hid h2
  have H3 := Lib.hid h3
  have H4 := Lib.hid h4
  clear h1 h2 h3 h4
  cases B1 <;> cases B2 <;> cases B3 <;> cases B4
  case true.true.true.true =>
    obtain ⟨hr1, hr2⟩ := inB_says H1.out
    obtain ⟨hk1, hk2⟩ := inB_says H2.out
    obtain ⟨hb1, hb2⟩ := inB_says H3.out
    obtain ⟨BL, hBL⟩ : ∃ BL, (r + b - 1) / b = BL := ⟨_, rfl⟩
    have hBL0 : 0 ≤ BL := by rw [← hBL]; exact Int.ediv_nonneg (by omega) (by omega)
    have hBL1 : BL ≤ 71 := by
      have h2 : (r + b - 1) / b ≤ r + b - 1 := Int.ediv_le_self _ (by omega)
      omega
    have HM := Lib.hid (show IntKind.i64.wrap (k * ((r + b - 1) / b)) = k * ((r + b - 1) / b) by
      rw [hBL, IntKind.wrap_i64]
      have h1 : 0 ≤ k * BL := Int.mul_nonneg (by omega) hBL0
      have h2 : k * BL ≤ 4 * 71 := Int.mul_le_mul hk2 hBL1 hBL0 (by omega)
      omega)
    obtain ⟨GB, hGB⟩ : ∃ GB, decide (32 ≤ k * ((r + b - 1) / b)) = GB := ⟨_, rfl⟩
    have HG := Lib.hid hGB
    have HD := Lib.hid (show decide (k * ((r + b - 1) / b) < 32) = !GB by rw [← hGB, ← decide_not]; exact decide_eq_decide.2 (by omega))
    rw [HD.out]
    clear hBL hBL0 hBL1 hGB HD hk1 hk2
    go_wp2_with (first
      | (refine wpList_box_blk (w := w) rfl 33 _ rfl #[.int .i64 r, .int .i64 k, .int .i64 b, .int .i64 wk] rfl ?_; intro u1 q1 g1 z1; have hc0 := q1.cell (i := 0) rfl; have hc1 := q1.cell (i := 1) rfl; have hc2 := q1.cell (i := 2) rfl; have hc3 := q1.cell (i := 3) rfl; have bb : Below w.heap.size w u1 := (Below.refl _ w).grown g1 (Nat.le_refl _) (by simp); clear g1 z1)
      | (refine wpList_run (w := u1) rfl (v := .pointer (some ⟨w.heap.size, 0, none⟩)) (Held.y_field (S := fun _ => True) (k := 0) (s := 0) rfl rfl Try.underlying33 rfl (by kernel_rfl) rfl _ trivial) ?_)
      | (refine wpList_run (w := u1) rfl (v := .pointer (some ⟨w.heap.size, 1, none⟩)) (Held.y_field (S := fun _ => True) (k := 1) (s := 0) rfl rfl Try.underlying33 rfl (by kernel_rfl) rfl _ trivial) ?_)
      | (refine wpList_run (w := u1) rfl (v := .pointer (some ⟨w.heap.size, 2, none⟩)) (Held.y_field (S := fun _ => True) (k := 2) (s := 0) rfl rfl Try.underlying33 rfl (by kernel_rfl) rfl _ trivial) ?_)
      | (refine wpList_run (w := u1) rfl (v := .pointer (some ⟨w.heap.size, 3, none⟩)) (Held.y_field (S := fun _ => True) (k := 3) (s := 0) rfl rfl Try.underlying33 rfl (by kernel_rfl) rfl _ trivial) ?_)
      | (go_at_call 17; (first | refine (within_any r 64 _ H1.out u1).mono ?_ | refine (within_any k 4 _ H2.out u1).mono ?_ | refine (within_any b 8 _ H3.out u1).mono ?_ | refine (within_any wk 4 _ H4.out u1).mono ?_); rintro e w' ⟨rfl, rfl⟩))
    refine wp_region_held (S := fun W => Below u1.heap.size u1 W) (by kernel_rfl) ?_
    change wpAnyH _ _ _ _ _ _ _ _ u1.drew
    have c0_0 := (Below.refl u1.heap.size u1).drew
    refine Held.tk (v := .pointer (some ⟨w.heap.size, 1, none⟩)) 0 (some 25) rfl (Held.y_field (k := 1) (s := 0) rfl rfl Try.underlying33 rfl (by kernel_rfl) rfl) c0_0 ?_
    simp only [Act.put, Z1, Z2, Z3]
    refine Held.tk (v := .int .i64 k) 1 (some 26) rfl (Held.y_load rfl rfl (by kernel_rfl) (fun W hW => (q1.below hW q1.lt).cell rfl)) c0_0 ?_
    simp only [Act.put, Z1, Z2, Z3]
    refine Held.tk (v := .agg #[.int .i64 r, .int .i64 k, .int .i64 b, .int .i64 wk]) 2 (some 27) rfl (Held.y_load_blk (n := 4) rfl rfl Try.underlying33 rfl (by kernel_rfl) rfl (fun W hW => q1.below hW q1.lt)) c0_0 ?_
    simp only [Act.put, Z1, Z2, Z3]
    refine Held.one 3 (by kernel_rfl) ?_
    refine Held.op_call 3 (some 28) 18 #[.agg #[.int .i64 r, .int .i64 k, .int .i64 b, .int .i64 wk]] rfl rfl rfl rfl (enters_of Try.func18 (by kernel_rfl) rfl) (by simp [Act.eval])
      (blocks_any r k b wk hr1 hr2 hb1 hb2 _) ?_
    rintro e w1 ⟨rfl, b1⟩
    have c0_1 := c0_0.trans (b1.mono c0_0.size)
    refine ⟨_, rfl, c0_1, ?_⟩
    simp only [Act.put, Z1, Z2, Z3]
    refine Held.tk (v := .int .i64 (k * ((r + b - 1) / b))) 4 (some 29) rfl (Held.y_int rfl rfl rfl (Held.run_mul 3 .i64 HM.out)) c0_1 ?_
    simp only [Act.put, Z1, Z2, Z3]
    refine Held.tk (v := .bool GB) 5 (some 30) rfl (y_geq rfl rfl rfl HG.out) c0_1 ?_
    simp only [Act.put, Z1, Z2, Z3]
    refine wpAnyH_done (by kernel_rfl) ?_ _
    have bz := bb.trans (c0_1.mono bb.size)
    cases GB
    all_goals
      go_wp2_with fail
      go_ret
      exact ⟨rfl, bz⟩
  all_goals go_wp2_with (first
    | (refine wpList_box_blk (w := w) rfl 33 _ rfl #[.int .i64 r, .int .i64 k, .int .i64 b, .int .i64 wk] rfl ?_; intro u1 q1 g1 z1; have hc0 := q1.cell (i := 0) rfl; have hc1 := q1.cell (i := 1) rfl; have hc2 := q1.cell (i := 2) rfl; have hc3 := q1.cell (i := 3) rfl; have bb : Below w.heap.size w u1 := (Below.refl _ w).grown g1 (Nat.le_refl _) (by simp); clear g1 z1)
    | (refine wpList_run (w := u1) rfl (v := .pointer (some ⟨w.heap.size, 0, none⟩)) (Held.y_field (S := fun _ => True) (k := 0) (s := 0) rfl rfl Try.underlying33 rfl (by kernel_rfl) rfl _ trivial) ?_)
    | (refine wpList_run (w := u1) rfl (v := .pointer (some ⟨w.heap.size, 1, none⟩)) (Held.y_field (S := fun _ => True) (k := 1) (s := 0) rfl rfl Try.underlying33 rfl (by kernel_rfl) rfl _ trivial) ?_)
    | (refine wpList_run (w := u1) rfl (v := .pointer (some ⟨w.heap.size, 2, none⟩)) (Held.y_field (S := fun _ => True) (k := 2) (s := 0) rfl rfl Try.underlying33 rfl (by kernel_rfl) rfl _ trivial) ?_)
    | (refine wpList_run (w := u1) rfl (v := .pointer (some ⟨w.heap.size, 3, none⟩)) (Held.y_field (S := fun _ => True) (k := 3) (s := 0) rfl rfl Try.underlying33 rfl (by kernel_rfl) rfl _ trivial) ?_)
    | (go_at_call 17; (first | refine (within_any r 64 _ H1.out u1).mono ?_ | refine (within_any k 4 _ H2.out u1).mono ?_ | refine (within_any b 8 _ H3.out u1).mono ?_ | refine (within_any wk 4 _ H4.out u1).mono ?_); rintro e w' ⟨rfl, rfl⟩))
  all_goals (go_ret; exact ⟨rfl, bb⟩)
end Go.Proofs.Ytjhpbpoldedldaa.Sp
namespace Go.Proofs.Ytjhpbpoldedldaa.Sl
open Go.RowKit Go.Shelf Mem Held
section
variable {α : Type} {k : St α} {P : Program} {ops : Array Oper} {o : Oper} {a : Act} {w : World} {Q : Exit → Act → World → Prop}
theorem op_alloc_blk (i : Nat) (d : Option Tmp) {K : Act → World → Prop} (ty : TypeId) (cs : Array Value) (hi : ops[i]? = some o) (hd : o.dst = d) (hw : Region.wanted o (yielded ops a.tmps) = true)
    (ho : o.op = .alloc ty) (hz : (P.info? ty).bind (·.zero) = some (.agg cs))
    (h : ∀ g w', Blk w' g ty cs → Below w.heap.size w w' → Hid (w.heap.size ≤ g) → K (a.put d (.pointer (some ⟨g, 0, none⟩))) w') : wpOp P ops Q i K a w := by
  subst hd
  refine op_wp i hi hw ?_
  unfold Oper.wp execOp
  simp only [ho, run_alloc_blk ty cs hz, Sem.run_bind, Sem.run_pure, Result.andThen_ok]
  exact h _ _ (heap_alloc_new w _) ((Below.refl _ w).alloc (Nat.le_refl _) _) (Lib.hid (Nat.le_refl _))
theorem op_build_lst (i : Nat) (d : Option Tmp) {K : Act → World → Prop} (ts e : TypeId) (n : Nat) {parts : Array (Nat × Operand)} (z : Value) (bytes : Nat) (xs : List α) (hi : ops[i]? = some o) (hd : o.dst = d) (hw : Region.wanted o (yielded ops a.tmps) = true)
    (ho : o.op = .buildSlice ts n parts) (hu : P.underlying ts = some (.slice e)) (hinfo : (P.info? e).map (fun i => (i.zero, i.size, i.bytes)) = some (some z, k.s, bytes)) (hz : z.cells.size = k.s)
    (hn : xs.length = n) (hp : (parts.map fun (i, x) => (i, a.eval x)).toList = ((xs.map fun x => Value.agg (k.cells x).toArray).zipIdx 0).map fun x => (x.2, x.1)) (h0 : 0 < n) (h24 : n * k.s ≤ 16777216)
    (h : ∀ g w', Blk w' g e (flat k xs).toArray → Below w.heap.size w w' → Hid (w.heap.size ≤ g) → K (a.put d (.slice (some ⟨g, 0, none⟩) n n)) w') : wpOp P ops Q i K a w := by
  subst hd
  refine op_wp i hi hw ?_
  obtain ⟨ie, hie, hz0, hs, hb⟩ := info_parts hinfo
  refine Go.wp_buildSlice ts e n parts ho (flat k xs).toArray ie z hu hie hz0 (by rw [hs]; omega) (by rw [hs]; have := Nat.mul_pos h0 k.pos; omega) ?_ (h _ _ (heap_alloc_new w _) ((Below.refl _ w).alloc (Nat.le_refl _) _) (Lib.hid (Nat.le_refl _)))
  rw [hp, hs]
  refine (Great.fill_whole k.pos (xs.map fun x => Value.agg (k.cells x).toArray) _ (fun v hv => ?_) (by simp [hn])).trans ?_
  · obtain ⟨x, _, rfl⟩ := List.mem_map.1 hv
    simp [Value.cells, k.len]
  · rw [List.flatMap_map]
    simp [flat, Value.cells]
end
end Go.Proofs.Ytjhpbpoldedldaa.Sl
namespace Go.Proofs.Ytjhpbpoldedldaa.Vm
open Go.RowKit Go.Shelf Go.Proofs.Ytjhpbpoldedldaa Mem Held Go.Proofs.Ytjhpbpoldedldaa.Range Rc Rs Sl
attribute [local irreducible] wpList wpListIn Calls
theorem info_mach : (Try.prog.info? 63).map (·.size) = some 10 := by kernel_rfl
set_option maxRecDepth 100000 in
set_option maxHeartbeats 8000000 in
theorem map_ok (B : Nat) (k : Nat) (A1 A2 A3 : Option Addr) (n1 c1 n2 c2 n3 c3 : Nat) (m f fi : List O) (n key val : Int) (w : World) (hn : (Lit.int .i64 n).wf = true) (hk : (Lit.int .i64 key).wf = true) (hv : (Lit.int .i64 val).wf = true) (h1 : Lst kO w B A1 n1 m) (h2 : Lst kO w B A2 n2 f) (h3 : Lst kO w B A3 n3 fi) (hB : B ≤ w.heap.size) (hC : checkB (k : Int) m f fi = true) :
    Calls Try.prog 28 #[.agg #[.int .i64 (k : Int), .slice A1 n1 c1, .slice A2 n2 c2, .slice A3 n3 c3], .int .i64 n, .agg #[.int .i64 key, .int .i64 val]] w fun e w' => ∃ g, e = .returned (.slice (some ⟨g, 0, none⟩) k k) ∧ Blk w' g 57 (flat kR (mapR (k : Int) m f fi n key val)).toArray ∧ w.heap.size ≤ g ∧ Below w.heap.size w w' := by
  obtain ⟨hK1, hK4, hmm, hmf, hme⟩ := checkB_says hC
  have hk1 : 1 ≤ k := by omega
  have hk4 : k ≤ 4 := by omega
  have HC := Lib.hid (show checkE (k : Int) m f fi = 0 by rw [checkE, if_pos hC])
  have HV := Lib.hid (show mapR (k : Int) m f fi n key val = runOut (wrap64 (n * (k : Int))) m [key, val, n, 0, 0, 0, 0, 0] (List.replicate k RD) by rw [mapR, if_pos hC, Int.toNat_natCast])
  rw [HV.out]
  clear HV hmf hme hK1 hK4 hC
  go_enter Try.func28, Try.ntmps28
  go_wp2_with (first
    | (refine wpList_box_blk (w := w) rfl 30 _ rfl #[.int .i64 (k : Int), .slice A1 n1 c1, .slice A2 n2 c2, .slice A3 n3 c3] rfl ?_; intro u1 qa g1 z1)
    | (refine wpList_box_blk (w := u1) rfl 36 _ rfl #[.int .i64 key, .int .i64 val] rfl ?_; intro u2 qp g2 z2; have qa := qa.grown g2 (by simp); have b1 : Below w.heap.size w u2 := ((Below.refl _ w).grown g1 (Nat.le_refl _) (by simp)).grown g2 g1.size (by simp); have hpl : w.heap.size ≤ u1.heap.size := g1.size; have L1 := h1.below (b1.mono hB); have L2 := h2.below (b1.mono hB); have L3 := h3.below (b1.mono hB); clear h1 h2 h3 g1 z1 g2 z2)
    | (refine wpList_load_blk (w := u2) rfl 30 _ rfl w.heap.size 4 rfl 30 _ qa _ Try.underlying30 rfl info_prog rfl ?_))
  refine (check_any B (k : Int) A1 A2 A3 n1 c1 n2 c2 n3 c3 m f fi u2 L1 L2 L3 (Nat.le_trans hB b1.size)).mono ?_
  rintro e u3 ⟨rfl, b3⟩
  rw [HC.out]
  have qa := qa.after b3
  have qp := qp.after b3
  have L1 := L1.below (b3.mono (Nat.le_trans hB b1.size))
  have b3 := b1.trans (b3.mono b1.size)
  clear b1 L2 L3 HC
  go_wp2_with fail
  refine wp_mono (Q := fun e a' w' => e = .normal ∧ ∃ gb gs gm, a' = { tmps := #[.agg #[.int .i64 (k : Int), .slice A1 n1 c1, .slice A2 n2 c2, .slice A3 n3 c3], .int .i64 n, .agg #[.int .i64 key, .int .i64 val], .pointer (some ⟨w.heap.size, 0, none⟩), undef, .pointer (some ⟨u1.heap.size, 0, none⟩), .slice none 0 0, .pointer (some ⟨gm, 0, none⟩), .agg #[.int .i64 (k : Int), .slice A1 n1 c1, .slice A2 n2 c2, .slice A3 n3 c3], .int .i64 0, .bool false, .agg #[.bool true, .int .i64 0, .int .i64 0, .int .i64 0], .slice (some ⟨gb, 0, none⟩) 1 1, .pointer (some ⟨w.heap.size, 0, none⟩), .int .i64 (k : Int), .slice (some ⟨gs, 0, none⟩) k k, .int .i64 n, .pointer (some ⟨w.heap.size, 0, none⟩), .int .i64 (k : Int), .int .i64 (wrap64 (n * (k : Int))), .agg #[.int .i64 0, .int .i64 0, .int .i64 0, .int .i64 0, .int .i64 0, .int .i64 0, .int .i64 0, .int .i64 0, .slice (some ⟨gs, 0, none⟩) k k, .int .i64 (wrap64 (n * (k : Int)))], undef, undef, undef, undef, undef, undef, undef, undef, undef, undef, undef], defers := [] } ∧ Blk w' gs 57 (flat kR (List.replicate k RD)).toArray ∧ Blk w' gm 63 #[.int .i64 0, .int .i64 0, .int .i64 0, .int .i64 0, .int .i64 0, .int .i64 0, .int .i64 0, .int .i64 0, .slice (some ⟨gs, 0, none⟩) k k, .int .i64 (wrap64 (n * (k : Int)))] ∧ gs ≠ gm ∧ u3.heap.size ≤ gs ∧ u3.heap.size ≤ gm ∧ Below u3.heap.size u3 w') ?_ ?_
  · refine wp_region_held (S := fun W => Below u3.heap.size u3 W) (by kernel_rfl) ?_
    change wpAnyH _ _ _ _ _ _ _ _ u3.drew
    have c0_0 := (Below.refl u3.heap.size u3).drew
    refine Held.take (v := .agg #[.bool true, .int .i64 0, .int .i64 0, .int .i64 0]) 0 (some 11) rfl rfl (by kernel_rfl) (by kernel_rfl) (by kernel_rfl) (fun _ _ _ h => by cases h.1) rfl (Held.y_build rfl (by kernel_rfl)) c0_0 ?_
    simp only [Act.put, Z1, Z2, Z3]
    refine Held.take (v := .pointer (some ⟨w.heap.size, 0, none⟩)) 2 (some 13) rfl rfl (by kernel_rfl) (by kernel_rfl) (by kernel_rfl) (fun _ _ _ h => by cases h.1) rfl (Held.y_field (k := 0) (s := 0) rfl rfl Try.underlying30 rfl (by kernel_rfl) rfl) c0_0 ?_
    simp only [Act.put, Z1, Z2, Z3]
    refine Held.take (v := .int .i64 (k : Int)) 3 (some 14) rfl rfl (by kernel_rfl) (by kernel_rfl) (by kernel_rfl) (fun _ _ _ h => by cases h.1) rfl (Held.y_load rfl rfl (by kernel_rfl) (fun W hW => (qa.below hW qa.lt).cell rfl)) c0_0 ?_
    simp only [Act.put, Z1, Z2, Z3]
    refine Held.take (v := .int .i64 n) 5 (some 16) rfl rfl (by kernel_rfl) (by kernel_rfl) (by kernel_rfl) (fun _ _ _ h => by cases h.1) rfl (Held.y_move rfl rfl) c0_0 ?_
    simp only [Act.put, Z1, Z2, Z3]
    refine Held.take (v := .pointer (some ⟨w.heap.size, 0, none⟩)) 6 (some 17) rfl rfl (by kernel_rfl) (by kernel_rfl) (by kernel_rfl) (fun _ _ _ h => by cases h.1) rfl (Held.y_field (k := 0) (s := 0) rfl rfl Try.underlying30 rfl (by kernel_rfl) rfl) c0_0 ?_
    simp only [Act.put, Z1, Z2, Z3]
    refine Held.take (v := .int .i64 (k : Int)) 7 (some 18) rfl rfl (by kernel_rfl) (by kernel_rfl) (by kernel_rfl) (fun _ _ _ h => by cases h.1) rfl (Held.y_load rfl rfl (by kernel_rfl) (fun W hW => (qa.below hW qa.lt).cell rfl)) c0_0 ?_
    simp only [Act.put, Z1, Z2, Z3]
    refine Held.take (v := .int .i64 (wrap64 (n * (k : Int)))) 8 (some 19) rfl rfl (by kernel_rfl) (by kernel_rfl) (by kernel_rfl) (fun _ _ _ h => by cases h.1) rfl (Held.y_int rfl rfl rfl (Held.run_mul 2 .i64 (w64 _))) c0_0 ?_
    simp only [Act.put, Z1, Z2, Z3]
    refine Held.two 1 10 (by kernel_rfl) ?_ ?_
    · refine op_build_lst (k := kR) 1 (some 12) 61 57 1 _ 32 [RD] rfl rfl rfl rfl Try.underlying61 info_rec3 rfl rfl (by simp [Act.eval, kR, R.cells, RD]) (by omega) (by decide) ?_
      intro gb w1 qb b1 hb1
      have hgb := Nat.le_trans c0_0.size hb1.out
      have c0_1 := c0_0.trans (b1.mono c0_0.size)
      refine ⟨c0_1, ?_⟩
      simp only [Act.put, Z1, Z2, Z3]
      refine Held.two 4 10 (by kernel_rfl) ?_ ?_
      · refine Held.op_call 4 (some 15) 35 #[.slice (some ⟨gb, 0, none⟩) 1 1, .int .i64 (k : Int)] rfl rfl rfl rfl (enters_of Try.func35 (by kernel_rfl) rfl) (by simp [Act.eval])
          (repeat_any _ (some ⟨gb, 0, none⟩) 1 k RD _ (lst_whole qb rfl (fun x hx => by rw [List.mem_singleton.1 hx]; exact ⟨rfl, rfl, rfl⟩)) (Nat.le_refl _) hk1 hk4) ?_
        rintro e w2 ⟨gs, rfl, qs, hgs_, b2⟩
        have c0_2 := c0_1.trans (b2.mono c0_1.size)
        have hgs := Nat.le_trans c0_1.size hgs_
        have qs_lt := qs.lt
        refine ⟨_, rfl, c0_2, ?_⟩
        simp only [Act.put, Z1, Z2, Z3]
        refine Held.take (v := .agg #[.int .i64 0, .int .i64 0, .int .i64 0, .int .i64 0, .int .i64 0, .int .i64 0, .int .i64 0, .int .i64 0, .slice (some ⟨gs, 0, none⟩) k k, .int .i64 (wrap64 (n * (k : Int)))]) 9 (some 20) rfl rfl (by kernel_rfl) (by kernel_rfl) (by kernel_rfl) (fun _ _ _ h => by cases h.1) rfl (Held.y_build rfl (by kernel_rfl)) c0_2 ?_
        simp only [Act.put, Z1, Z2, Z3]
        refine Held.one 10 (by kernel_rfl) ?_
        refine op_alloc_blk 10 (some 7) 63 _ rfl rfl rfl rfl zero_mach ?_
        intro gm w3 qm b3 hb3
        have hgm := Nat.le_trans c0_2.size hb3.out
        have qs := qs.after b3
        have hsm : gs ≠ gm := fun e => absurd (Nat.lt_of_lt_of_le qs_lt hb3.out) (by rw [e]; exact Nat.lt_irrefl _)
        have c0_3 := c0_2.trans (b3.mono c0_2.size)
        refine ⟨c0_3, ?_⟩
        simp only [Act.put, Z1, Z2, Z3]
        refine Held.one 11 (by kernel_rfl) ?_
        refine Held.op_store_blk 11 none 63 gm 10 63 _ #[.int .i64 0, .int .i64 0, .int .i64 0, .int .i64 0, .int .i64 0, .int .i64 0, .int .i64 0, .int .i64 0, .slice (some ⟨gs, 0, none⟩) k k, .int .i64 (wrap64 (n * (k : Int)))] rfl rfl rfl rfl rfl rfl qm info_mach rfl rfl (by kernel_rfl) ?_
        intro w4 qz g4
        have c0_4 := c0_3.grown g4 c0_3.size (fun r e => by cases e; exact hgm)
        have qy := qs.grown g4 (by intro e; injection e with e; exact hsm e)
        refine ⟨c0_4, ?_⟩
        simp only [Act.put]
        refine wpAnyH_done (by kernel_rfl) ?_ _
        exact ⟨rfl, gb, gs, gm, rfl, qy, qz, hsm, hgs, hgm, c0_4⟩
      · refine op_alloc_blk 10 (some 7) 63 _ rfl rfl rfl rfl zero_mach ?_
        intro gm w2 qm b2 hb2
        have hgm := Nat.le_trans c0_1.size hb2.out
        have qb := qb.after b2
        have c0_2 := c0_1.trans (b2.mono c0_1.size)
        refine ⟨c0_2, ?_⟩
        simp only [Act.put, Z1, Z2, Z3]
        refine Held.one 4 (by kernel_rfl) ?_
        refine Held.op_call 4 (some 15) 35 #[.slice (some ⟨gb, 0, none⟩) 1 1, .int .i64 (k : Int)] rfl rfl rfl rfl (enters_of Try.func35 (by kernel_rfl) rfl) (by simp [Act.eval])
          (repeat_any _ (some ⟨gb, 0, none⟩) 1 k RD _ (lst_whole qb rfl (fun x hx => by rw [List.mem_singleton.1 hx]; exact ⟨rfl, rfl, rfl⟩)) (Nat.le_refl _) hk1 hk4) ?_
        rintro e w3 ⟨gs, rfl, qs, hgs_, b3⟩
        have c0_3 := c0_2.trans (b3.mono c0_2.size)
        have hgs := Nat.le_trans c0_2.size hgs_
        have hsm : gs ≠ gm := fun e => absurd qm.lt (by rw [← e]; exact Nat.not_lt.2 hgs_)
        have qm := qm.after b3
        refine ⟨_, rfl, c0_3, ?_⟩
        simp only [Act.put, Z1, Z2, Z3]
        refine Held.take (v := .agg #[.int .i64 0, .int .i64 0, .int .i64 0, .int .i64 0, .int .i64 0, .int .i64 0, .int .i64 0, .int .i64 0, .slice (some ⟨gs, 0, none⟩) k k, .int .i64 (wrap64 (n * (k : Int)))]) 9 (some 20) rfl rfl (by kernel_rfl) (by kernel_rfl) (by kernel_rfl) (fun _ _ _ h => by cases h.1) rfl (Held.y_build rfl (by kernel_rfl)) c0_3 ?_
        simp only [Act.put, Z1, Z2, Z3]
        refine Held.one 11 (by kernel_rfl) ?_
        refine Held.op_store_blk 11 none 63 gm 10 63 _ #[.int .i64 0, .int .i64 0, .int .i64 0, .int .i64 0, .int .i64 0, .int .i64 0, .int .i64 0, .int .i64 0, .slice (some ⟨gs, 0, none⟩) k k, .int .i64 (wrap64 (n * (k : Int)))] rfl rfl rfl rfl rfl rfl qm info_mach rfl rfl (by kernel_rfl) ?_
        intro w4 qz g4
        have c0_4 := c0_3.grown g4 c0_3.size (fun r e => by cases e; exact hgm)
        have qy := qs.grown g4 (by intro e; injection e with e; exact hsm e)
        refine ⟨c0_4, ?_⟩
        simp only [Act.put]
        refine wpAnyH_done (by kernel_rfl) ?_ _
        exact ⟨rfl, gb, gs, gm, rfl, qy, qz, hsm, hgs, hgm, c0_4⟩
    · refine op_alloc_blk 10 (some 7) 63 _ rfl rfl rfl rfl zero_mach ?_
      intro gm w1 qm b1 hb1
      have hgm := Nat.le_trans c0_0.size hb1.out
      have c0_1 := c0_0.trans (b1.mono c0_0.size)
      refine ⟨c0_1, ?_⟩
      simp only [Act.put, Z1, Z2, Z3]
      refine Held.one 1 (by kernel_rfl) ?_
      refine op_build_lst (k := kR) 1 (some 12) 61 57 1 _ 32 [RD] rfl rfl rfl rfl Try.underlying61 info_rec3 rfl rfl (by simp [Act.eval, kR, R.cells, RD]) (by omega) (by decide) ?_
      intro gb w2 qb b2 hb2
      have hgb := Nat.le_trans c0_1.size hb2.out
      have qm := qm.after b2
      have c0_2 := c0_1.trans (b2.mono c0_1.size)
      refine ⟨c0_2, ?_⟩
      simp only [Act.put, Z1, Z2, Z3]
      refine Held.one 4 (by kernel_rfl) ?_
      refine Held.op_call 4 (some 15) 35 #[.slice (some ⟨gb, 0, none⟩) 1 1, .int .i64 (k : Int)] rfl rfl rfl rfl (enters_of Try.func35 (by kernel_rfl) rfl) (by simp [Act.eval])
        (repeat_any _ (some ⟨gb, 0, none⟩) 1 k RD _ (lst_whole qb rfl (fun x hx => by rw [List.mem_singleton.1 hx]; exact ⟨rfl, rfl, rfl⟩)) (Nat.le_refl _) hk1 hk4) ?_
      rintro e w3 ⟨gs, rfl, qs, hgs_, b3⟩
      have c0_3 := c0_2.trans (b3.mono c0_2.size)
      have hgs := Nat.le_trans c0_2.size hgs_
      have hsm : gs ≠ gm := fun e => absurd qm.lt (by rw [← e]; exact Nat.not_lt.2 hgs_)
      have qm := qm.after b3
      refine ⟨_, rfl, c0_3, ?_⟩
      simp only [Act.put, Z1, Z2, Z3]
      refine Held.take (v := .agg #[.int .i64 0, .int .i64 0, .int .i64 0, .int .i64 0, .int .i64 0, .int .i64 0, .int .i64 0, .int .i64 0, .slice (some ⟨gs, 0, none⟩) k k, .int .i64 (wrap64 (n * (k : Int)))]) 9 (some 20) rfl rfl (by kernel_rfl) (by kernel_rfl) (by kernel_rfl) (fun _ _ _ h => by cases h.1) rfl (Held.y_build rfl (by kernel_rfl)) c0_3 ?_
      simp only [Act.put, Z1, Z2, Z3]
      refine Held.one 11 (by kernel_rfl) ?_
      refine Held.op_store_blk 11 none 63 gm 10 63 _ #[.int .i64 0, .int .i64 0, .int .i64 0, .int .i64 0, .int .i64 0, .int .i64 0, .int .i64 0, .int .i64 0, .slice (some ⟨gs, 0, none⟩) k k, .int .i64 (wrap64 (n * (k : Int)))] rfl rfl rfl rfl rfl rfl qm info_mach rfl rfl (by kernel_rfl) ?_
      intro w4 qz g4
      have c0_4 := c0_3.grown g4 c0_3.size (fun r e => by cases e; exact hgm)
      have qy := qs.grown g4 (by intro e; injection e with e; exact hsm e)
      refine ⟨c0_4, ?_⟩
      simp only [Act.put]
      refine wpAnyH_done (by kernel_rfl) ?_ _
      exact ⟨rfl, gb, gs, gm, rfl, qy, qz, hsm, hgs, hgm, c0_4⟩
  · rintro e a' v1 ⟨rfl, gb, gs, gm, rfl, qs, qm, hsm, hgs, hgm, cz⟩
    have qa := qa.after cz
    have qp := qp.after cz
    have L1 := L1.below (cz.mono (Nat.le_trans hB b3.size))
    have bz := b3.trans (cz.mono b3.size)
    have hlm := qm.lt
    have hls := qs.lt
    have hc1 := qa.cell (i := 1) rfl
    have hp0 := qp.cell (i := 0) rfl
    have hp1 := qp.cell (i := 1) rfl
    have s3 := b3.size
    clear cz
    have HWF := Lib.hid (show ∀ z ∈ [key, val, n], (Lit.int .i64 z).wf = true from fun z hz => by
      rcases List.mem_cons.1 hz with rfl | hz
      · exact hk
      · rcases List.mem_cons.1 hz with rfl | hz
        · exact hv
        · rw [List.mem_singleton.1 hz]; exact hn)
    go_wp2_with (first
      | (refine wpList_run (w := v1) rfl (v := .pointer (some ⟨w.heap.size, 1, none⟩)) (Held.y_field (S := fun _ => True) (k := 1) (s := 0) rfl rfl Try.underlying30 rfl (by kernel_rfl) rfl _ trivial) ?_)
      | (refine wpList_run (w := v1) rfl (v := .pointer (some ⟨u1.heap.size, 0, none⟩)) (Held.y_field (S := fun _ => True) (k := 0) (s := 0) rfl rfl Try.underlying36 rfl (by kernel_rfl) rfl _ trivial) ?_)
      | (refine wpList_run (w := v1) rfl (v := .pointer (some ⟨u1.heap.size, 1, none⟩)) (Held.y_field (S := fun _ => True) (k := 1) (s := 0) rfl rfl Try.underlying36 rfl (by kernel_rfl) rfl _ trivial) ?_)
      | (refine Held.wpList_build_row (w := v1) rfl 75 2 3 _ rfl .i64 8 [key, val, n] Try.underlying75 info_i64 (by simp [Act.eval]) rfl (by omega) (by omega) HWF.out ?_; intro w4 r4 g4 z4))
    have b4 : Below u3.heap.size v1 w4 := (Below.refl _ v1).grown g4 (by omega) (by simp)
    have qm4 : Blk w4 gm 63 (mach (List.replicate 8 0) (.slice (some ⟨gs, 0, none⟩) k k) (wrap64 (n * (k : Int)))) := qm.grown g4 (by simp)
    have qs4 := qs.grown g4 (by simp)
    have L4 := L1.below (b4.mono (Nat.le_trans hB s3))
    have b4z := bz.trans (b4.mono s3)
    have l4 := r4.lt
    have s4 := b4z.size
    refine (run_any u3.heap.size B w4.heap.size gm gs A1 (some ⟨v1.heap.size, 0, none⟩) (some ⟨gs, 0, none⟩) n1 c1 3 3 k k m [key, val, n] (wrap64 (n * (k : Int))) (List.replicate k RD) w4 L4 (r4.ints (by simp)) (Nat.le_trans hB s3) hgm (by omega) (Nat.le_refl _) (by omega) (by omega) qm4 (fun _ => ⟨rfl, qs4, hsm, hgs⟩) (by simp) hmm).mono ?_
    rintro e w5 ⟨⟨v, rfl⟩, q5, qs5, b5⟩
    have b5 := b4z.trans (b5.mono s3)
    have qs5 := qs5 (by omega)
    have hrl : (runR m ([key, val, n] ++ List.replicate (8 - 3) 0)).length = 8 := by rw [runR_length]; rfl
    have c5 := q5.cell (mach_8 hrl _ _)
    have hRO := Lib.hid (show runOut (wrap64 (n * (k : Int))) m ([key, val, n] ++ List.replicate (8 - 3) 0) (List.replicate k RD) = runOut (wrap64 (n * (k : Int))) m [key, val, n, 0, 0, 0, 0, 0] (List.replicate k RD) from rfl)
    rw [hRO.out] at qs5
    clear q5 hrl qm qs qm4 qs4 L4 L1 r4 g4 b4 b4z
    go_wp2_with (refine wpList_run (w := w5) rfl (v := .pointer (some ⟨gm, 8, none⟩)) (Held.y_field (S := fun _ => True) (k := 8) (s := 0) rfl rfl Try.underlying63 rfl (by kernel_rfl) rfl _ trivial) ?_)
    go_ret
    exact ⟨gs, rfl, qs5, Nat.le_trans s3 hgs, b5⟩
end Go.Proofs.Ytjhpbpoldedldaa.Vm
namespace Go.Proofs.Ytjhpbpoldedldaa.Sp
open Go.RowKit Go.Shelf Go.Proofs.Ytjhpbpoldedldaa Mem Held Go.Proofs.Ytjhpbpoldedldaa.Range Rc Rs Sl Vm
attribute [local go_sem] Oper.semAt_some
attribute [local irreducible] wpList wpListIn Calls
structure KeepR (S : Nat → Prop) (w w' : World) : Prop where
  size : w.heap.size ≤ w'.heap.size
  block : ∀ (b : Nat) (o : Obj), (¬ S b ∨ ∃ cs fz, o = .cells cs 57 fz) → w.heap[b]? = some o → o.isCells = true → w'.heap[b]? = some o
section
variable {S : Nat → Prop} {w w' w'' : World}
theorem KeepR.refl (S : Nat → Prop) (w : World) : KeepR S w w := ⟨Nat.le_refl _, fun _ _ _ h _ => h⟩
theorem KeepR.trans (h : KeepR S w w') (k : KeepR S w' w'') : KeepR S w w'' := ⟨Nat.le_trans h.size k.size, fun b o hb ho hc => k.block b o hb (h.block b o hb ho hc) hc⟩
theorem KeepR.of_below (h : Below w.heap.size w w') : KeepR S w w' := ⟨h.size, fun b o _ ho _ => (h.block b (Array.getElem?_eq_some_iff.1 ho).1).trans ho⟩
theorem KeepR.of_grown {row : Option Nat} (hg : w.grownBy w' row) (hr : ∀ r, row = some r → S r ∧ ∀ o, w.heap[r]? = some o → ¬ ∃ cs fz, o = .cells cs 57 fz) : KeepR S w w' :=
  ⟨hg.size, fun b o hb ho hc => (hg.block b (Array.getElem?_eq_some_iff.1 ho).1 (fun e => by
    obtain ⟨h1, h2⟩ := hr b e.symm
    rcases hb with hb | hb
    · exact hb h1
    · exact h2 o ho hb)).trans ho⟩
theorem KeepR.put (W : World) (l : Nat) (o o' : Obj) (h : W.heap[l]? = some o) (hc : o.isCells = false) : KeepR S W (W.putObj l o') :=
  ⟨by rw [World.putObj_size]; exact Nat.le_refl _, fun b q _ hq hqc => by
    have hne : b ≠ l := fun e => by
      rw [e, h] at hq
      injection hq with hq
      rw [hq, hqc] at hc
      cases hc
    exact (World.putObj_heap_other hne).trans hq⟩
theorem KeepR.only (h : KeepR S w w') : Only S w w' := ⟨h.size, fun b o hb ho hc => h.block b o (.inl hb) ho hc⟩
theorem KeepR.blk (h : KeepR S w w') {g : Nat} {t : TypeId} {cs : Array Value} (hb : Blk w g t cs) (hg : ¬ S g) : Blk w' g t cs := h.block g _ (.inl hg) hb rfl
theorem KeepR.recs (h : KeepR S w w') {g : Nat} {cs : Array Value} (hb : Blk w g 57 cs) : Blk w' g 57 cs := h.block g _ (.inr ⟨_, _, rfl⟩) hb rfl
theorem KeepR.lst (h : KeepR S w w') {α : Type} {k : St α} {B n : Nat} {A : Option Addr} {xs : List α} (hB : ∀ b, b < B → ¬ S b) (hx : Lst k w B A n xs) : Lst k w' B A n xs := Vm.Lst.only hx h.only hB
end
def EncR (x : R) (B0 : Nat) (W : World) (args : Array Value) : Prop := args = #[.agg #[.bool x.d, .int .i64 x.k, .int .i64 x.v, .int .i64 x.s]]
theorem zero_pair : (Try.prog.info? 36).bind (·.zero) = some (.agg #[.int .i64 0, .int .i64 0]) := by kernel_rfl
theorem size_pair : (Try.prog.info? 36).map (·.size) = some 2 := by kernel_rfl
theorem mapR_len {k : Nat} {m f e : List O} (hC : checkB (k : Int) m f e = true) (n key val : Int) : (mapR (k : Int) m f e n key val).length = k := by
  rw [mapR, if_pos hC, runOut_length, List.length_replicate, Int.toNat_natCast]
set_option maxRecDepth 100000 in
set_option maxHeartbeats 2000000 in
theorem living_any (K : Int) (A1 A2 A3 A : Option Addr) (n1 c1 n2 c2 n3 c3 n c : Nat) (w : World) :
    Calls Try.prog 20 #[.agg #[.int .i64 K, .slice A1 n1 c1, .slice A2 n2 c2, .slice A3 n3 c3], .slice A n c] w fun e w' => ∃ bi bg : Nat, e = .returned (.func (.func 27) #[] #[.pointer (some ⟨bi, 0, none⟩), .pointer (some ⟨bg, 0, none⟩)]) ∧ Blk w' bi 22 #[.slice A n c] ∧ Blk w' bg 30 #[.int .i64 K, .slice A1 n1 c1, .slice A2 n2 c2, .slice A3 n3 c3] ∧ w.heap.size ≤ bi ∧ w.heap.size ≤ bg ∧ Below w.heap.size w w' := by
  go_enter Try.func20, Try.ntmps20
  go_wp2_with (first
    | (refine wpList_box_blk (w := w) rfl 30 _ rfl #[.int .i64 K, .slice A1 n1 c1, .slice A2 n2 c2, .slice A3 n3 c3] rfl ?_; intro u1 q1 g1 z1)
    | (refine Held.wpList_box_cell (w := u1) rfl 22 _ rfl (.slice A n c) rfl rfl ?_; intro u2 q2 g2 z2))
  go_ret
  exact ⟨_, _, rfl, q2, q1.grown g2 (by simp), g1.size, Nat.le_refl _, ((Below.refl _ w).grown g1 (Nat.le_refl _) (by simp)).grown g2 g1.size (by simp)⟩
set_option maxRecDepth 100000 in
set_option maxHeartbeats 8000000 in
theorem living_give (N bi bg : Nat) (S : Nat → Prop) (B : Nat) (k : Nat) (A1 A2 A3 A : Option Addr) (n1 c1 n2 c2 n3 c3 n c : Nat) (m f fi : List O) (ps : List (Int × Int)) (w : World) (qi : Blk w bi 22 #[.slice A n c]) (qg : Blk w bg 30 #[.int .i64 (k : Int), .slice A1 n1 c1, .slice A2 n2 c2, .slice A3 n3 c3]) (hbi : ¬ S bi) (hbg : ¬ S bg) (h1 : Lst kO w B A1 n1 m) (h2 : Lst kO w B A2 n2 f) (h3 : Lst kO w B A3 n3 fi) (hp : Lst kP w B A n ps) (hBl : ∀ b, b < B → ¬ S b) (hlb : B ≤ w.heap.size) (hn : n ≤ 1048576) (hC : checkB (k : Int) m f fi = true) :
    SeqGive Fence.wide N Try.prog 27 #[.pointer (some ⟨bi, 0, none⟩), .pointer (some ⟨bg, 0, none⟩)] EncR (KeepR S) (live (k : Int) m f fi ps) w := by
  intro l J W hW hJ hY h0
  have qi := qi.after hW
  have qg := qg.after hW
  have h1 := h1.below (hW.mono hlb)
  have h2 := h2.below (hW.mono hlb)
  have h3 := h3.below (hW.mono hlb)
  have hp := hp.below (hW.mono hlb)
  have hlb : B ≤ W.heap.size := Nat.le_trans hlb hW.size
  clear hW
  have HL := Lib.hid hp.1
  have HC := Lib.hid hC
  have hk4 : k ≤ 4 := by have := (checkB_says hC).2.1; omega
  clear hC
  refine callsIn_of_wp Try.func27 rfl trivial ?_ rfl
  simp only [Try.ntmps27, List.size_toArray, List.length_cons, List.length_nil, Nat.reduceAdd, Nat.reduceSub, Array.replicate_succ, Array.replicate_zero, List.push_toArray, List.append_toArray, List.nil_append, List.cons_append]
  have kbi := qi.cell (i := 0) rfl
  gi_wp2_with fail
  clear kbi
  gi_loopw [10] (fun i wr => ∃ j : Nat, j ≤ n ∧ i = .int .i64 j ∧ J (liveTo (k : Int) m f fi ps j) wr ∧ KeepR S W wr) (fun i _ => n - (intOf i).toNat)
  case atStart => exact ⟨0, by omega, rfl, by simpa [liveTo] using h0, KeepR.refl _ _⟩
  case round =>
    obtain ⟨i, hi, rfl, Ji, ok⟩ := hrel
    by_cases hlt : i < n
    · have kp := ok.lst hBl hp
      obtain ⟨b, off, rfl, hb, hx⟩ := kp.at_ hlt
      have hwf := kp.wf_at hlt
      have hbw : b < wr.heap.size := Nat.lt_of_lt_of_le hb (Nat.le_trans hlb ok.size)
      have qgr := ok.blk qg hbg
      have HRS := Lib.hid (fun rs (hrs : mapR (k : Int) m f fi i (ps.getD i (0, 0)).1 (ps.getD i (0, 0)).2 = rs) j (hj : j < rs.length) (h : (rs.getD j R0).d = false) => live_step (K := (k : Int)) (m := m) (f := f) (e := fi) (by rw [HL.out]; exact hlt) hrs hj h)
      have HNX := Lib.hid (show liveTo (k : Int) m f fi ps (i + 1) = liveTo (k : Int) m f fi ps i ++ (mapR (k : Int) m f fi i (ps.getD i (0, 0)).1 (ps.getD i (0, 0)).2).filter (fun r => !r.d) by rw [liveTo_snoc, liveAt])
      have hx : wr.rangeAt b (off + i * 2) [.int .i64 (ps.getD i (0, 0)).1, .int .i64 (ps.getD i (0, 0)).2] := hx
      obtain ⟨hw1, hw2⟩ : (Lit.int .i64 (ps.getD i (0, 0)).1).wf = true ∧ (Lit.int .i64 (ps.getD i (0, 0)).2).wf = true := hwf
      generalize (ps.getD i (0, 0)).1 = key at hx hw1 HRS HNX
      generalize (ps.getD i (0, 0)).2 = val at hx hw2 HRS HNX
      have hlt' : (i : Int) < (n : Int) := by omega
      have hi0 : (0 : Int) ≤ (i : Int) := by omega
      have hiw := nat_wf (n := i) (by omega)
      clear kp
      gi_wp2_with (first
        | (refine Held.wpListIn_one (r := none) rfl (by intro c e; cases e) ?_; refine wpList_run (w := wr) rfl (v := .pointer (some ⟨b, off + i * 2, none⟩)) (Held.y_addr (S := fun _ => True) rfl rfl rfl (run_addr_of (P := Try.prog) 22 36 b off n c i 2 .i64 Try.underlying22 size_pair hlt) _ trivial) ?_; refine wpList_nil ⟨rfl, ?_⟩)
        | (refine Held.wpListIn_one (r := none) rfl (by intro c e; cases e) ?_; refine wpList_run (w := wr) rfl (v := .agg #[.int .i64 key, .int .i64 val]) (y_load_range (S := fun W => W = wr) (n := 2) (cs := [.int .i64 key, .int .i64 val]) rfl rfl Try.underlying36 rfl size_pair rfl (fun W hW => by rw [hW]; exact hx) _ rfl) ?_; refine wpList_nil ⟨rfl, ?_⟩)
        | (refine Held.wpListIn_one (r := none) rfl (by intro c e; cases e) ?_; refine wpList_alloc_blk (w := wr) rfl 36 rfl _ zero_pair ?_; intro w2 q2 g2 z2; refine wpList_nil ⟨rfl, ?_⟩)
        | (refine Held.wpListIn_one (r := none) rfl (by intro c e; cases e) ?_; refine wpList_store_blk (w := w2) rfl 36 _ _ rfl wr.heap.size 2 rfl 36 _ #[.int .i64 key, .int .i64 val] rfl q2 size_pair rfl rfl (by kernel_rfl) ?_; intro w3 q3 g3 z3; refine wpList_nil ⟨rfl, ?_⟩; have b3 : Below wr.heap.size wr w3 := ((Below.refl _ wr).grown g2 (Nat.le_refl _) (by simp)).grown g3 g2.size (fun r e => by cases e; exact Nat.le_refl _); have qg3 := qgr.after b3; clear g2 g3 z2 z3 q2)
        | (refine Held.wpListIn_one (r := none) rfl (by intro c e; cases e) ?_; refine wpList_load_blk (w := w3) rfl 30 _ rfl bg 4 rfl 30 _ qg3 _ Try.underlying30 rfl info_prog rfl ?_; refine wpList_nil ⟨rfl, ?_⟩)
        | (refine Held.wpListIn_one (r := none) rfl (by intro c e; cases e) ?_; refine wpList_load_blk (w := w3) rfl 36 _ rfl wr.heap.size 2 rfl 36 _ q3 _ Try.underlying36 rfl size_pair rfl ?_; refine wpList_nil ⟨rfl, ?_⟩))
      refine ⟨trivial, fun h => (by cases h), ?_⟩
      refine (callsIn_wide.2 (map_ok B k A1 A2 A3 n1 c1 n2 c2 n3 c3 m f fi i key val w3 hiw hw1 hw2 ((ok.lst hBl h1).below (b3.mono (Nat.le_trans hlb ok.size))) ((ok.lst hBl h2).below (b3.mono (Nat.le_trans hlb ok.size))) ((ok.lst hBl h3).below (b3.mono (Nat.le_trans hlb ok.size))) (Nat.le_trans (Nat.le_trans hlb ok.size) b3.size) HC.out)).mono ?_
      rintro e w4 ⟨g, rfl, q4, hg, b4⟩
      have b4 := b3.trans (b4.mono b3.size)
      have J4 := hJ _ wr w4 Ji (grown_of_below b4 none)
      have ok4 := ok.trans (KeepR.of_below b4)
      have HLR := Lib.hid (mapR_len HC.out (i : Int) key val)
      have HRS := Lib.hid (HRS.out _ rfl)
      generalize mapR (k : Int) m f fi (i : Int) key val = rs at q4 HRS HNX HLR
      clear b3 qg3 q3 hx Ji ok b4 hbw qgr hw1 hw2 hiw
      gi_wp2_with fail
      gi_loopw [20] (fun t wr => ∃ j : Nat, j ≤ k ∧ t = .int .i64 j ∧ J (liveTo (k : Int) m f fi ps i ++ (rs.take j).filter (fun r => !r.d)) wr ∧ KeepR S W wr ∧ Blk wr g 57 (Sl.flat kR rs).toArray) (fun t _ => k - (intOf t).toNat)
      case atStart => exact ⟨0, by omega, rfl, by simpa using J4, ok4, q4⟩
      case round =>
        clear J4 ok4 q4
        obtain ⟨j, hj, rfl, Jj, ok, qr⟩ := hrel
        by_cases hlj : j < k
        · have hjr : j < rs.length := by rw [HLR.out]; exact hlj
          have hx : wr.rangeAt g (0 + j * 4) (rs.getD j R0).cells := fun q v hv => by
            have hq : q < 4 := (List.getElem?_eq_some_iff.1 hv).1
            rw [Nat.zero_add]
            refine qr.cell ?_
            rw [List.getElem?_toArray, show (4 : Nat) = kR.s from rfl, Sl.flat_at (k := kR) rs j q hq hjr]
            exact hv
          have HP := Lib.hid (fun h => HRS.out j hjr h)
          have HS1 := Lib.hid (fun h : (rs.getD j R0).d = false => filter_snoc hjr h)
          have HS2 := Lib.hid (fun h : (rs.getD j R0).d = true => filter_skip hjr h)
          generalize rs.getD j R0 = x at hx HP HS1 HS2
          have hlj' : (j : Int) < (k : Int) := by omega
          have hj0 : (0 : Int) ≤ (j : Int) := by omega
          obtain ⟨xd, xk, xv, xs⟩ := x
          have hx : wr.rangeAt g (0 + j * 4) [.bool xd, .int .i64 xk, .int .i64 xv, .int .i64 xs] := hx
          cases xd
          · have HP := Lib.hid (HP.out rfl)
            have HS := Lib.hid (HS1.out rfl)
            clear HS1 HS2
            gi_wp2_with (first
              | (refine Held.wpListIn_one (r := none) rfl (by intro c e; cases e) ?_; refine wpList_run (w := wr) rfl (v := .pointer (some ⟨g, 0 + j * 4, none⟩)) (Held.y_addr (S := fun _ => True) rfl rfl rfl (run_addr_of (P := Try.prog) 61 57 g 0 k k j 4 .i64 Try.underlying61 size_rec hlj) _ trivial) ?_; refine wpList_nil ⟨rfl, ?_⟩)
              | (refine Held.wpListIn_one (r := none) rfl (by intro c e; cases e) ?_; refine wpList_run (w := wr) rfl (v := .agg #[.bool false, .int .i64 xk, .int .i64 xv, .int .i64 xs]) (y_load_range (S := fun W => W = wr) (n := 4) (cs := [.bool false, .int .i64 xk, .int .i64 xv, .int .i64 xs]) rfl rfl Try.underlying57 rfl size_rec rfl (fun W hW => by rw [hW]; exact hx) _ rfl) ?_; refine wpList_nil ⟨rfl, ?_⟩)
              | (refine Held.wpListIn_one (r := none) rfl (by intro c e; cases e) ?_; refine wpList_alloc_blk (w := wr) rfl 57 rfl _ zero_rec ?_; intro w2 q2 g2 z2; refine wpList_nil ⟨rfl, ?_⟩)
              | (refine Held.wpListIn_one (r := none) rfl (by intro c e; cases e) ?_; refine wpList_store_blk (w := w2) rfl 57 _ _ rfl wr.heap.size 4 rfl 57 _ #[.bool false, .int .i64 xk, .int .i64 xv, .int .i64 xs] rfl q2 size_rec rfl rfl (by kernel_rfl) ?_; intro w3 q3 g3 z3; refine wpList_nil ⟨rfl, ?_⟩; have b3 : Below wr.heap.size wr w3 := ((Below.refl _ wr).grown g2 (Nat.le_refl _) (by simp)).grown g3 g2.size (fun r e => by cases e; exact Nat.le_refl _); have cd := q3.cell (i := 0) rfl; clear g2 g3 z2 z3 q2)
              | (refine Held.wpListIn_one (r := none) rfl (by intro c e; cases e) ?_; refine wpList_run (w := w3) rfl (v := .pointer (some ⟨wr.heap.size, 0, none⟩)) (Held.y_field (S := fun _ => True) (k := 0) (s := 0) rfl rfl Try.underlying57 rfl (by kernel_rfl) rfl _ trivial) ?_; refine wpList_nil ⟨rfl, ?_⟩)
              | (refine Held.wpListIn_one (r := none) rfl (by intro c e; cases e) ?_; refine wpList_load_blk (w := w3) rfl 57 _ rfl wr.heap.size 4 rfl 57 _ q3 _ Try.underlying57 rfl size_rec rfl ?_; refine wpList_nil ⟨rfl, ?_⟩; obtain ⟨fn, tmps, assign, body, hy, hR⟩ := hY _ ⟨false, xk, xv, xs⟩ #[.agg #[.bool false, .int .i64 xk, .int .i64 xv, .int .i64 xs]] wr w3 Jj (grown_of_below b3 none) rfl HP.out))
            refine ⟨fun h => (by cases h), ?_⟩
            refine hR.mono ?_
            rintro e W4 ⟨rfl, J4, o4⟩
            rw [List.append_assoc, HS.out] at J4
            have o5 := (ok.trans (KeepR.of_below b3)).trans o4
            have qr5 := ((KeepR.of_below b3).trans o4).recs qr
            clear hR hy o4 b3 ok Jj qr q3 cd hx HP
            gi_wp2_with fail
            go_roundw
            case rel => exact ⟨j + 1, by omega, by go_num, J4, o5, qr5⟩
            case measure => simp [intOf]; omega
          · have HS := Lib.hid (HS2.out rfl)
            clear HS1 HS2 HP
            gi_wp2_with (first
              | (refine Held.wpListIn_one (r := none) rfl (by intro c e; cases e) ?_; refine wpList_run (w := wr) rfl (v := .pointer (some ⟨g, 0 + j * 4, none⟩)) (Held.y_addr (S := fun _ => True) rfl rfl rfl (run_addr_of (P := Try.prog) 61 57 g 0 k k j 4 .i64 Try.underlying61 size_rec hlj) _ trivial) ?_; refine wpList_nil ⟨rfl, ?_⟩)
              | (refine Held.wpListIn_one (r := none) rfl (by intro c e; cases e) ?_; refine wpList_run (w := wr) rfl (v := .agg #[.bool true, .int .i64 xk, .int .i64 xv, .int .i64 xs]) (y_load_range (S := fun W => W = wr) (n := 4) (cs := [.bool true, .int .i64 xk, .int .i64 xv, .int .i64 xs]) rfl rfl Try.underlying57 rfl size_rec rfl (fun W hW => by rw [hW]; exact hx) _ rfl) ?_; refine wpList_nil ⟨rfl, ?_⟩)
              | (refine Held.wpListIn_one (r := none) rfl (by intro c e; cases e) ?_; refine wpList_alloc_blk (w := wr) rfl 57 rfl _ zero_rec ?_; intro w2 q2 g2 z2; refine wpList_nil ⟨rfl, ?_⟩)
              | (refine Held.wpListIn_one (r := none) rfl (by intro c e; cases e) ?_; refine wpList_store_blk (w := w2) rfl 57 _ _ rfl wr.heap.size 4 rfl 57 _ #[.bool true, .int .i64 xk, .int .i64 xv, .int .i64 xs] rfl q2 size_rec rfl rfl (by kernel_rfl) ?_; intro w3 q3 g3 z3; refine wpList_nil ⟨rfl, ?_⟩; have b3 : Below wr.heap.size wr w3 := ((Below.refl _ wr).grown g2 (Nat.le_refl _) (by simp)).grown g3 g2.size (fun r e => by cases e; exact Nat.le_refl _); have cd := q3.cell (i := 0) rfl; clear g2 g3 z2 z3 q2)
              | (refine Held.wpListIn_one (r := none) rfl (by intro c e; cases e) ?_; refine wpList_run (w := w3) rfl (v := .pointer (some ⟨wr.heap.size, 0, none⟩)) (Held.y_field (S := fun _ => True) (k := 0) (s := 0) rfl rfl Try.underlying57 rfl (by kernel_rfl) rfl _ trivial) ?_; refine wpList_nil ⟨rfl, ?_⟩))
            refine ⟨fun _ h => (by cases h), ?_⟩
            have J4 := hJ _ wr w3 Jj (grown_of_below b3 none)
            rw [← HS.out] at J4
            have o5 := ok.trans (KeepR.of_below b3)
            have qr5 := (KeepR.of_below (S := S) b3).recs qr
            clear b3 ok Jj qr q3 cd hx
            gi_wp2_with fail
            go_roundw
            case rel => exact ⟨j + 1, by omega, by go_num, J4, o5, qr5⟩
            case measure => simp [intOf]; omega
        · have hjk : j = k := by omega
          subst hjk
          rw [List.take_of_length_le (by rw [HLR.out]; exact Nat.le_refl _), ← HNX.out] at Jj
          gi_wp2_with fail
          go_roundw
          case rel => exact ⟨i + 1, by omega, by go_num, Jj, ok⟩
          case measure => simp [intOf]; omega
    · have hin : i = n := by omega
      subst hin
      gi_wp2_with fail
      go_end0
      exact ⟨⟨_, rfl⟩, by rw [live, HL.out]; exact Ji⟩
end Go.Proofs.Ytjhpbpoldedldaa.Sp
namespace Go.Proofs
open Go.Shelf
def Try.sortP_ren : Go.Shelf.Ren := ⟨fun | 6 => 22 | 15 => 30 | 14 => 29 | 28 => 44 | 29 => 45 | 20 => 36 | 21 => 37 | 22 => 38 | 23 => 39 | 24 => 40 | 25 => 41 | 26 => 42 | 27 => 43 | 46 => 51 | 47 => 52 | 48 => 53 | 49 => 54 | 50 => 55 | 57 => 61 | n => n, fun | 22 => 22 | 24 => 36 | 25 => 59 | 3 => 3 | 39 => 23 | 0 => 0 | 53 => 90 | 55 => 92 | 4 => 4 | 46 => 83 | 45 => 82 | 50 => 87 | 5 => 5 | 9 => 9 | 66 => 98 | 70 => 102 | 76 => 110 | 77 => 111 | n => n, fun | n => n⟩
theorem Try.sortP : Go.Proofs.SlLaysF0.n6 Try.prog Try.sortP_ren := {
  mixed := by kernel_rfl
  f6 := ⟨Try.f22.name, by decide, Try.func22.trans (congrArg some (by kernel_rfl))⟩
  f14 := ⟨Try.f29.name, by decide, Try.func29.trans (congrArg some (by kernel_rfl))⟩
  f15 := Try.func30.trans (congrArg some (by kernel_rfl))
  f20 := ⟨Try.f36.name, by decide, Try.func36.trans (congrArg some (by kernel_rfl))⟩
  f21 := ⟨Try.f37.name, by decide, Try.func37.trans (congrArg some (by kernel_rfl))⟩
  f22 := ⟨Try.f38.name, by decide, Try.func38.trans (congrArg some (by kernel_rfl))⟩
  f23 := ⟨Try.f39.name, by decide, Try.func39.trans (congrArg some (by kernel_rfl))⟩
  f24 := ⟨Try.f40.name, by decide, Try.func40.trans (congrArg some (by kernel_rfl))⟩
  f25 := ⟨Try.f41.name, by decide, Try.func41.trans (congrArg some (by kernel_rfl))⟩
  f26 := ⟨Try.f42.name, by decide, Try.func42.trans (congrArg some (by kernel_rfl))⟩
  f27 := ⟨Try.f43.name, by decide, Try.func43.trans (congrArg some (by kernel_rfl))⟩
  f28 := Try.func44.trans (congrArg some (by kernel_rfl))
  f29 := Try.func45.trans (congrArg some (by kernel_rfl))
  f46 := ⟨Try.f51.name, by decide, Try.func51.trans (congrArg some (by kernel_rfl))⟩
  f47 := Try.func52.trans (congrArg some (by kernel_rfl))
  f48 := Try.func53.trans (congrArg some (by kernel_rfl))
  f49 := ⟨Try.f54.name, by decide, Try.func54.trans (congrArg some (by kernel_rfl))⟩
  f50 := ⟨Try.f55.name, by decide, Try.func55.trans (congrArg some (by kernel_rfl))⟩
  f57 := ⟨Try.f61.name, by decide, Try.func61.trans (congrArg some (by kernel_rfl))⟩
  t0 := Try.underlying0
  a0 := Try.isAgg0
  z0 := Try.sizeOf0
  v0 := Try.zeroValue0
  t3 := Try.underlying3
  a3 := Try.isAgg3
  z3 := Try.sizeOf3
  v3 := Try.zeroValue3
  t4 := Try.underlying4
  a4 := Try.isAgg4
  z4 := Try.sizeOf4
  v4 := Try.zeroValue4
  t5 := Try.underlying5
  a5 := Try.isAgg5
  z5 := Try.sizeOf5
  v5 := Try.zeroValue5
  t9 := Try.underlying9
  a9 := Try.isAgg9
  z9 := Try.sizeOf9
  v9 := Try.zeroValue9
  t22 := Try.underlying22
  a22 := Try.isAgg22
  z22 := Try.sizeOf22
  v22 := Try.zeroValue22
  t25 := Try.underlying59
  a25 := Try.isAgg59
  z25 := Try.sizeOf59
  v25 := Try.zeroValue59
  t39 := Try.underlying23
  a39 := Try.isAgg23
  z39 := Try.sizeOf23
  v39 := Try.zeroValue23
  t45 := Try.underlying82
  a45 := Try.isAgg82
  z45 := Try.sizeOf82
  v45 := Try.zeroValue82
  t46 := Try.underlying83
  a46 := Try.isAgg83
  z46 := Try.sizeOf83
  v46 := Try.zeroValue83
  t50 := Try.underlying87
  a50 := Try.isAgg87
  z50 := Try.sizeOf87
  v50 := Try.zeroValue87
  t53 := Try.underlying90
  a53 := Try.isAgg90
  z53 := Try.sizeOf90
  v53 := Try.zeroValue90
  t55 := Try.underlying92
  a55 := Try.isAgg92
  z55 := Try.sizeOf92
  v55 := Try.zeroValue92
  t66 := Try.underlying98
  a66 := Try.isAgg98
  z66 := Try.sizeOf98
  v66 := Try.zeroValue98
  t70 := Try.underlying102
  a70 := Try.isAgg102
  z70 := Try.sizeOf102
  v70 := Try.zeroValue102
  t76 := Try.underlying110
  a76 := Try.isAgg110
  z76 := Try.sizeOf110
  v76 := Try.zeroValue110
  t77 := Try.underlying111
  a77 := Try.isAgg111
  z77 := Try.sizeOf111
  v77 := Try.zeroValue111 }
end Go.Proofs
