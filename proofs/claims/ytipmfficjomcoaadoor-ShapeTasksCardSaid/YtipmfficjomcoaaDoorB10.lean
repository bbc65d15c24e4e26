/-
  Package shape's Tasks: which iterator each group has, and the iterator over all tasks, by their contracts.
  Package shape's Count and Task, by their contracts.
  Two lists of the call's own in the making, one of numbers, one of tasks, and the two variables that hold them, beside an iterator that turns blocks of its own: no program here.
-/
import Derived.Test.YtipmfficjomcoaaDoorB9
import Derived.Test.YtipmfficjomcoaaDoorB7
import Derived.Test.YtipmfficjomcoaaDoorB4
set_option linter.unusedVariables false
namespace Go.Proofs.YtipmfficjomcoaaDoor.Sh
open Go.RowKit Go.Shelf Mem Held Go.Proofs.YtipmfficjomcoaaDoor.Range Sl
attribute [local go_sem] Oper.semAt_some
attribute [local irreducible] wpList wpListIn Calls
theorem grs_says {K : Int} {I mp M T k : Nat} {g : Gr} (h : JobP K I mp M T) (hg : (grs I mp M T)[k]? = some g) : (g.rd = 0 ∨ ∃ r : Nat, r < T ∧ g.rd = (r : Int) + 1) ∧ g.sz ≤ 32 ∧ g.fi ≤ 1000 ∧ 1 ≤ g.kd ∧ g.kd ≤ 5 := by
  have hm := List.mem_of_getElem? hg
  have : ∃ c i, 1 ≤ c ∧ c ≤ 5 ∧ i < nrK T c ∧ g = grK I mp M T c i := by
    unfold grs grsK at hm
    simp only [List.mem_append, List.mem_map, List.mem_range] at hm
    rcases hm with (((⟨i, hi, rfl⟩ | ⟨i, hi, rfl⟩) | ⟨i, hi, rfl⟩) | ⟨i, hi, rfl⟩) | ⟨i, hi, rfl⟩
    · exact ⟨1, i, by omega, by omega, hi, rfl⟩
    · exact ⟨2, i, by omega, by omega, hi, rfl⟩
    · exact ⟨3, i, by omega, by omega, hi, rfl⟩
    · exact ⟨4, i, by omega, by omega, hi, rfl⟩
    · exact ⟨5, i, by omega, by omega, hi, rfl⟩
  obtain ⟨c, i, h1, h5, hi, rfl⟩ := this
  refine ⟨?_, sz_le h c, ?_, by show (1 : Int) ≤ (c : Int); omega, by show (c : Int) ≤ 5; omega⟩
  · show ((frK c + i : Nat) : Int) = 0 ∨ ∃ r : Nat, r < T ∧ ((frK c + i : Nat) : Int) = (r : Int) + 1
    unfold frK nrK at *
    split
    · rename_i hc
      rw [if_pos hc] at hi
      exact .inr ⟨i, hi, by omega⟩
    · rename_i hc
      rw [if_neg hc] at hi
      exact .inl (by omega)
  · show cnK I mp M T c + i * szK I mp M c ≤ 1000
    have e := cn_step I mp M T h1
    have := cn_le h (show c + 1 ≤ 6 by omega)
    have := Nat.mul_le_mul_right (szK I mp M c) (Nat.le_of_lt hi)
    omega
set_option maxRecDepth 100000 in
set_option maxHeartbeats 4000000 in
theorem singles_any (K : Int) (I M : Nat) (g : Gr) (w : World) :
    Calls Tryd.prog 57 #[.agg #[.int .i64 K, .int .i64 (I : Int), .int .i64 (M : Int)], .agg #[.int .i64 g.kd, .int .i64 g.rd, .int .i64 (g.sz : Int), .int .i64 (g.fi : Int)]] w fun e w' => ∃ bg bj : Nat, e = .returned (.func (.func 67) #[] #[.pointer (some ⟨bg, 0, none⟩), .pointer (some ⟨bj, 0, none⟩)]) ∧ Blk w' bg 68 #[.int .i64 g.kd, .int .i64 g.rd, .int .i64 (g.sz : Int), .int .i64 (g.fi : Int)] ∧ Blk w' bj 62 #[.int .i64 K, .int .i64 (I : Int), .int .i64 (M : Int)] ∧ (w.heap.size ≤ bg ∧ bg < w'.heap.size) ∧ (w.heap.size ≤ bj ∧ bj < w'.heap.size) ∧ Below w.heap.size w w' := by
  go_enter Tryd.func57, Tryd.ntmps57
  go_wp2_with (first
    | (refine wpList_box_blk (w := w) rfl 62 _ rfl _ rfl ?_; intro u1 qu1 gu1 zu1)
    | (refine wpList_box_blk (w := u1) rfl 68 _ rfl _ rfl ?_; intro u2 qu2 gu2 zu2))
  go_ret
  have q1 := qu1.grown gu2 (by simp)
  exact ⟨_, _, rfl, qu2, q1, ⟨gu1.size, qu2.lt⟩, ⟨Nat.le_refl _, q1.lt⟩, ((Below.refl _ w).grown gu1 (Nat.le_refl _) (by simp)).grown gu2 gu1.size (by simp)⟩
set_option maxRecDepth 100000 in
set_option maxHeartbeats 4000000 in
theorem pairs_any (K : Int) (I M : Nat) (g : Gr) (w : World) :
    Calls Tryd.prog 58 #[.agg #[.int .i64 K, .int .i64 (I : Int), .int .i64 (M : Int)], .agg #[.int .i64 g.kd, .int .i64 g.rd, .int .i64 (g.sz : Int), .int .i64 (g.fi : Int)]] w fun e w' => ∃ bg bj : Nat, e = .returned (.func (.func 68) #[] #[.pointer (some ⟨bg, 0, none⟩), .pointer (some ⟨bj, 0, none⟩)]) ∧ Blk w' bg 68 #[.int .i64 g.kd, .int .i64 g.rd, .int .i64 (g.sz : Int), .int .i64 (g.fi : Int)] ∧ Blk w' bj 62 #[.int .i64 K, .int .i64 (I : Int), .int .i64 (M : Int)] ∧ (w.heap.size ≤ bg ∧ bg < w'.heap.size) ∧ (w.heap.size ≤ bj ∧ bj < w'.heap.size) ∧ Below w.heap.size w w' := by
  go_enter Tryd.func58, Tryd.ntmps58
  go_wp2_with (first
    | (refine wpList_box_blk (w := w) rfl 62 _ rfl _ rfl ?_; intro u1 qu1 gu1 zu1)
    | (refine wpList_box_blk (w := u1) rfl 68 _ rfl _ rfl ?_; intro u2 qu2 gu2 zu2))
  go_ret
  have q1 := qu1.grown gu2 (by simp)
  exact ⟨_, _, rfl, qu2, q1, ⟨gu1.size, qu2.lt⟩, ⟨Nat.le_refl _, q1.lt⟩, ((Below.refl _ w).grown gu1 (Nat.le_refl _) (by simp)).grown gu2 gu1.size (by simp)⟩
set_option maxRecDepth 100000 in
set_option maxHeartbeats 4000000 in
theorem tasks_any (K : Int) (I mp M T k : Nat) (g : Gr) (h : JobP K I mp M T) (hg : (grs I mp M T)[k]? = some g) (w : World) (hT : Bi.TzT w) :
    Calls Tryd.prog 35 #[.agg #[.int .i64 K, .int .i64 (I : Int), .int .i64 (M : Int)], .agg #[.int .i64 g.kd, .int .i64 g.rd, .int .i64 (g.sz : Int), .int .i64 (g.fi : Int)]] w fun e w' => ∃ (gf : Nat) (lb : Array Value) (Nd : Nat → Prop), e = .returned (.func (.func gf) #[] lb) ∧ Enters Tryd.prog gf ∧ (∀ N, 1 ≤ N → SeqP Fence.wide N Tryd.prog gf lb Nd encT (atG mp M g) w') ∧ (∀ b, Nd b → b = 1 ∨ (w.heap.size ≤ b ∧ b < w'.heap.size)) ∧ Below w.heap.size w w' := by
  obtain ⟨hr, hz, hf, -, -⟩ := grs_says h hg
  by_cases h0 : g.rd = 0
  · have hdec : decide (g.rd = 0) = true := decide_eq_true h0
    have HS := Lib.hid (fun (bg bj : Nat) (W : World) (qg : Blk W bg 68 #[.int .i64 g.kd, .int .i64 g.rd, .int .i64 (g.sz : Int), .int .i64 (g.fi : Int)]) (q : Blk W bj 62 #[.int .i64 K, .int .i64 (I : Int), .int .i64 (M : Int)]) (N : Nat) => singles_p N bg bj K I mp M T g h W q qg h0 (by omega) (by omega))
    clear h h0 hr hz hf hg
    go_enter Tryd.func35, Tryd.ntmps35
    go_wp2_with (first
      | (refine wpList_box_blk (w := w) rfl 62 _ rfl _ rfl ?_; intro u1 qu1 gu1 zu1)
      | (refine wpList_box_blk (w := u1) rfl 68 _ rfl _ rfl ?_; intro u2 qu2 gu2 zu2; have qu1 := qu1.grown gu2 (by simp); have bo2 : Below w.heap.size w u2 := ((Below.refl _ w).grown gu1 (Nat.le_refl _) (by simp)).grown gu2 gu1.size (by simp); have hc1 := qu2.cell (i := 1) rfl)
      | (refine wpList_fld0 (w := u2) rfl rfl rfl Tryd.underlying68 rfl (by kernel_rfl) ?_)
      | (refine Held.wpList_run (w := u2) rfl (v := .bool true) (Held.y_eqI (S := fun _ => True) rfl rfl rfl hdec _ trivial) ?_)
      | (refine wpList_load_blk (w := u2) rfl 62 _ rfl (w.heap.size) 3 rfl 62 _ qu1 _ Tryd.underlying62 rfl (by kernel_rfl) rfl ?_)
      | (refine wpList_load_blk (w := u2) rfl 68 _ rfl (u1.heap.size) 4 rfl 68 _ qu2 _ Tryd.underlying68 rfl (by kernel_rfl) rfl ?_))
    refine (singles_any K I M g u2).mono ?_
    rintro e u3 ⟨bg, bj, rfl, q1, q2, l1, l2, b3⟩
    have b4 := bo2.trans (b3.mono bo2.size)
    have hs := bo2.size
    clear hdec hc1
    go_wp2_with fail
    go_ret
    exact ⟨_, _, _, rfl, enters_of Tryd.func67 (by kernel_rfl) rfl, fun N _ => HS.out bg bj u3 q1 q2 N, fun b hb => .inr (by rcases hb with rfl | rfl <;> omega), b4⟩
  · obtain ⟨r, hrT, hrd⟩ := hr.resolve_left h0
    have hdec : decide (g.rd = 0) = false := decide_eq_false h0
    obtain ⟨kd, rd, sz, fi⟩ := g
    simp only at hrd hz hf hdec ⊢
    subst hrd
    have HS := Lib.hid (fun (bg bj : Nat) (W : World) (qg : Blk W bg 68 #[.int .i64 kd, .int .i64 ((r : Int) + 1), .int .i64 (sz : Int), .int .i64 (fi : Int)]) (q : Blk W bj 62 #[.int .i64 K, .int .i64 (I : Int), .int .i64 (M : Int)]) (hT : Bi.TzT W) (N : Nat) (hN : 1 ≤ N) => pairs_p N bg bj K I mp M T r sz fi kd h hN W q qg hT hrT (by omega))
    have HPA := Lib.hid (fun (W : World) => pairs_any K I M ⟨kd, (r : Int) + 1, sz, fi⟩ W)
    clear h h0 hr hz hf hg hrT
    go_enter Tryd.func35, Tryd.ntmps35
    go_wp2_with (first
      | (refine wpList_box_blk (w := w) rfl 62 _ rfl _ rfl ?_; intro u1 qu1 gu1 zu1)
      | (refine wpList_box_blk (w := u1) rfl 68 _ rfl _ rfl ?_; intro u2 qu2 gu2 zu2; have qu1 := qu1.grown gu2 (by simp); have bo2 : Below w.heap.size w u2 := ((Below.refl _ w).grown gu1 (Nat.le_refl _) (by simp)).grown gu2 gu1.size (by simp); have hc1 := qu2.cell (i := 1) rfl)
      | (refine wpList_fld0 (w := u2) rfl rfl rfl Tryd.underlying68 rfl (by kernel_rfl) ?_)
      | (refine Held.wpList_run (w := u2) rfl (v := .bool false) (Held.y_eqI (S := fun _ => True) rfl rfl rfl hdec _ trivial) ?_)
      | (refine wpList_load_blk (w := u2) rfl 62 _ rfl (w.heap.size) 3 rfl 62 _ qu1 _ Tryd.underlying62 rfl (by kernel_rfl) rfl ?_)
      | (refine wpList_load_blk (w := u2) rfl 68 _ rfl (u1.heap.size) 4 rfl 68 _ qu2 _ Tryd.underlying68 rfl (by kernel_rfl) rfl ?_))
    refine (HPA.out u2).mono ?_
    rintro e u3 ⟨bg, bj, rfl, q1, q2, l1, l2, b3⟩
    have b4 := bo2.trans (b3.mono bo2.size)
    have hs := bo2.size
    have hT3 := hT.below b4 hT.lt
    clear hdec hc1
    go_wp2_with fail
    go_ret
    exact ⟨_, _, _, rfl, enters_of Tryd.func68 (by kernel_rfl) rfl, fun N hN => HS.out bg bj u3 q1 q2 hT3 N hN, fun b hb => hb.elim (fun e => .inr (by omega)) (fun hb => hb.elim (fun e => .inr (by omega)) .inl), b4⟩
set_option maxRecDepth 100000 in
set_option maxHeartbeats 4000000 in
theorem taskss_any (r k b wk : Int) (w : World) :
    Calls Tryd.prog 9 #[.agg #[.int .i64 r, .int .i64 k, .int .i64 b, .int .i64 wk]] w fun e w' => ∃ bp : Nat, e = .returned (.func (.func 32) #[] #[.pointer (some ⟨bp, 0, none⟩)]) ∧ Blk w' bp 23 #[.int .i64 r, .int .i64 k, .int .i64 b, .int .i64 wk] ∧ w.heap.size ≤ bp ∧ Below w.heap.size w w' := by
  go_enter Tryd.func9, Tryd.ntmps9
  go_wp2_with (first
    | (refine wpList_box_blk (w := w) rfl 23 _ rfl _ rfl ?_; intro u1 qu1 gu1 zu1))
  go_ret
  exact ⟨_, rfl, qu1, Nat.le_refl _, (Below.refl _ w).grown gu1 (Nat.le_refl _) (by simp)⟩
def atA (I mp M T k : Nat) : Option (Nat × Tk) := ((tasksT I mp M T)[k]?).map (fun t => (k, t))
theorem atA_group {K : Int} {I mp M T k i : Nat} {g : Gr} {y : Nat × Tk} (h : JobP K I mp M T) (hg : (grs I mp M T)[k]? = some g) (hy : atG mp M g i = some y) : atA I mp M T (g.fi + i) = some y := by
  unfold atG at hy
  obtain ⟨t, ht, rfl⟩ := Option.map_eq_some_iff.1 hy
  obtain ⟨h1, h2⟩ := chn_at (grs_chn h).1 hg
  have hi : i < g.sz := by rw [← h2]; exact (List.getElem?_eq_some_iff.1 ht).1
  unfold atA
  rw [← grs_tasks, flat_at (grs_chn h).1 hg hi, ht]
  rfl
theorem atG_end {K : Int} {I mp M T k i : Nat} {g : Gr} (h : JobP K I mp M T) (hg : (grs I mp M T)[k]? = some g) (hi : i ≤ g.sz) (hn : atG mp M g i = none) : i = g.sz := by
  obtain ⟨h1, h2⟩ := chn_at (grs_chn h).1 hg
  unfold atG at hn
  rw [Option.map_eq_none_iff, List.getElem?_eq_none_iff, h2] at hn
  omega
theorem atG_lt {K : Int} {I mp M T k i : Nat} {g : Gr} {y : Nat × Tk} (h : JobP K I mp M T) (hg : (grs I mp M T)[k]? = some g) (hy : atG mp M g i = some y) : i < g.sz ∧ y.1 = g.fi + i ∧ (tasksT I mp M T)[g.fi + i]? = some y.2 := by
  obtain ⟨h1, h2⟩ := chn_at (grs_chn h).1 hg
  have ha := atA_group h hg hy
  unfold atG at hy
  obtain ⟨t, ht, rfl⟩ := Option.map_eq_some_iff.1 hy
  refine ⟨by rw [← h2]; exact (List.getElem?_eq_some_iff.1 ht).1, rfl, ?_⟩
  unfold atA at ha
  obtain ⟨t', ht', he⟩ := Option.map_eq_some_iff.1 ha
  injection he with _ he
  rw [ht', he]
def frstA (I mp M T k : Nat) : Nat := (((grs I mp M T).take k).flatMap (tkOf mp M)).length
theorem atA_end {I mp M T k : Nat} (hg : (grs I mp M T)[k]? = none) : atA I mp M T (frstA I mp M T k) = none := by
  unfold atA frstA
  rw [take_end hg, grs_tasks]
  simp
set_option maxRecDepth 100000 in
set_option maxHeartbeats 16000000 in
theorem tasks_p (N bp : Nat) (r k b wk : Int) (hk0 : -9223372036854775808 ≤ k) (hk1 : k ≤ 9223372036854775807) (hN : 4 ≤ N) (w : World) (q : Blk w bp 23 #[.int .i64 r, .int .i64 k, .int .i64 b, .int .i64 wk]) (hT : Bi.TzT w) :
    SeqP Fence.wide N Tryd.prog 32 #[.pointer (some ⟨bp, 0, none⟩)] (fun b => b = 1) encT (atA (inN r k b wk) (mpN r k b wk) (mN r k b wk) (tN r k b wk)) w := by
  have h := job_of (r := r) (b := b) (wk := wk) hk0 hk1
  have HJ := Lib.hid (fun (W : World) => jobOf_any r k b wk W)
  generalize inN r k b wk = I at *
  generalize mpN r k b wk = mp at *
  generalize mN r k b wk = M at *
  generalize tN r k b wk = T at *
  obtain ⟨K, hK⟩ : ∃ K, k = K := ⟨_, rfl⟩
  have HJ : Hid (∀ W, Calls Tryd.prog 33 #[.agg #[.int .i64 r, .int .i64 k, .int .i64 b, .int .i64 wk]] W fun e w' => e = .returned (.agg #[.int .i64 K, .int .i64 (I : Int), .int .i64 (M : Int)]) ∧ Below W.heap.size W w') := by rw [← hK]; exact HJ
  rw [hK] at h
  clear hk0 hk1 hK
  intro l J Jx W hW hJ hJx hY h0
  have hT0 := hT.below hW hT.lt
  have qp := q.after hW
  have HGP := Lib.hid (fun (bq : Nat) (X : World) (q : Blk X bq 62 #[.int .i64 K, .int .i64 (I : Int), .int .i64 (M : Int)]) (hT : Bi.TzT X) => groups_p (N - 1) bq K I mp M T h X q hT)
  have HTK := Lib.hid (fun (i : Nat) (g : Gr) (hg : (grs I mp M T)[i]? = some g) (X : World) (hT : Bi.TzT X) => tasks_any K I mp M T i g h hg X hT)
  have HAT := Lib.hid (fun (i j : Nat) (g : Gr) (y : Nat × Tk) (hg : (grs I mp M T)[i]? = some g) (hy : atG mp M g j = some y) => atA_group h hg hy)
  have HIX := Lib.hid (fun (i : Nat) (g : Gr) (hg : (grs I mp M T)[i]? = some g) => show frstA I mp M T i = g.fi ∧ frstA I mp M T (i + 1) = g.fi + g.sz from ⟨by unfold frstA; have := (chn_at (grs_chn h).1 hg).1; omega, take_next (grs_chn h).1 hg⟩)
  have HGE := Lib.hid (fun (i j : Nat) (g : Gr) (hg : (grs I mp M T)[i]? = some g) (hj : j ≤ g.sz) (hn : atG mp M g j = none) => atG_end h hg hj hn)
  have HGL := Lib.hid (fun (i j : Nat) (g : Gr) (y : Nat × Tk) (hg : (grs I mp M T)[i]? = some g) (hy : atG mp M g j = some y) => (atG_lt h hg hy).1)
  have HEN := Lib.hid (fun (i : Nat) (hg : (grs I mp M T)[i]? = none) => atA_end hg)
  have HY := Lib.hid hY
  clear hY h hW hT q
  refine callsIn_of_wp_marks Tryd.func32 rfl trivial ?_ rfl
  simp only [Tryd.ntmps32, List.size_toArray, List.length_cons, List.length_nil, Nat.reduceAdd, Nat.reduceSub, Array.replicate_succ, Array.replicate_zero, List.push_toArray, List.append_toArray, List.nil_append, List.cons_append]
  gi_wp2_with (first
    | (refine Held.wpListIn_one (r := none) rfl (by intro c e; cases e) ?_; refine Held.wpList_box_cell (w := W) rfl 60 _ rfl (.func (.yield l) #[] #[]) rfl rfl ?_; intro u1 q1 g1 z1; have q1 : Blk u1 W.heap.size 60 #[.func (.yield l) #[] #[]] := q1; have b1 : Below W.heap.size W u1 := (Below.refl _ W).grown g1 (Nat.le_refl _) (by simp); have qp1 := qp.after b1; refine wpList_nil ⟨rfl, ?_⟩)
    | (refine Held.wpListIn_one (r := none) rfl (by intro c e; cases e) ?_; refine wpList_load_blk (w := u1) rfl 23 _ rfl (bp) 4 rfl 23 _ qp1 _ Tryd.underlying23 rfl (by kernel_rfl) rfl ?_; refine wpList_nil ⟨rfl, ?_⟩))
  first | (refine ⟨trivial, fun h => (by cases h), ?_⟩; refine (callsIn_wide.2 (HJ.out u1)).mono ?_) | (refine ⟨trivial, ?_⟩; refine (callsIn_wide.2 (HJ.out u1)).mono ?_)
  rintro e u2 ⟨rfl, b2⟩
  have qy2 := q1.after b2
  gi_wp2_with (first
    | (refine Held.wpListIn_one (r := none) rfl (by intro c e; cases e) ?_; refine wpList_alloc_blk (w := u2) rfl 62 rfl #[.int .i64 0, .int .i64 0, .int .i64 0] (by kernel_rfl) ?_; intro u3 qu3 gu3 zu3; refine wpList_nil ⟨rfl, ?_⟩)
    | (refine Held.wpListIn_one (r := none) rfl (by intro c e; cases e) ?_; refine wpList_store_blk (w := u3) rfl 62 _ _ rfl (u2.heap.size) 3 rfl 62 _ #[.int .i64 K, .int .i64 (I : Int), .int .i64 (M : Int)] rfl qu3 (by kernel_rfl) rfl rfl (by kernel_rfl) ?_; intro u4 qu4 gu4 zu4; have b4 : Below u2.heap.size u2 u4 := ((Below.refl _ u2).grown gu3 (Nat.le_refl _) (by simp)).grown gu4 gu3.size (fun r e => by cases e; exact Nat.le_refl _); refine wpList_nil ⟨rfl, ?_⟩)
    | (refine Held.wpListIn_one (r := none) rfl (by intro c e; cases e) ?_; refine wpList_load_blk (w := u4) rfl 62 _ rfl (u2.heap.size) 3 rfl 62 _ qu4 _ Tryd.underlying62 rfl (by kernel_rfl) rfl ?_; refine wpList_nil ⟨rfl, ?_⟩))
  first | (refine ⟨trivial, fun h => (by cases h), ?_⟩; refine (callsIn_wide.2 (groups_any K I M u4)).mono ?_) | (refine ⟨trivial, ?_⟩; refine (callsIn_wide.2 (groups_any K I M u4)).mono ?_)
  rintro e u5 ⟨bq, rfl, qq5, hbq, b5⟩
  have qy5 := (qy2.after b4).after b5
  have qj5 := qu4.after b5
  have bb : Below W.heap.size W u5 := b1.trans ((b2.mono b1.size).trans ((b4.mono (Nat.le_trans b1.size b2.size)).trans (b5.mono (Nat.le_trans b1.size (Nat.le_trans b2.size b4.size)))))
  have hT5 := hT0.below bb hT0.lt
  have J5 := hJ.all h0 bb
  have lT : 1 < W.heap.size := hT0.lt
  have ly : W.heap.size < u1.heap.size := q1.lt
  have l12 := b2.size
  have lj : u2.heap.size < u4.heap.size := qu4.lt
  have l45 := b5.size
  have lq : bq < u5.heap.size := qq5.lt
  have hit := HGP.out bq u5 qq5 hT5
  generalize hby : W.heap.size = by_ at *
  generalize hbj : u2.heap.size = bj at *
  clear b1 b2 b4 b5 bb qp1 qy2 q1 qu3 qu4 g1 gu3 gu4 z1 zu3 zu4 h0 hT0 HGP HJ hby hbj qp
  gi_wp2_with fail
  refine wpIn_rangeFunc_p rfl (show 1 ≤ N by omega) (gf := 54) (lb := #[.pointer (some ⟨bq, 0, none⟩)]) rfl trivial (enters_of Tryd.func54 (by kernel_rfl) rfl)
    hit (Below.refl _ _) (fun _ => rfl) (fun b hb => by rcases hb with rfl | rfl <;> omega)
    (Inn J (fun b => b = by_ ∨ b = bj ∨ b = bq) (fun b => b = 1) (fun k X => Blk X by_ 60 #[.func (.yield l) #[] #[]] ∧ Blk X bj 62 #[.int .i64 K, .int .i64 (I : Int), .int .i64 (M : Int)] ∧ Bi.TzT X) (frstA I mp M T))
    (fun c pv k X => c = .ret ∧ Out Jx pv k X) ?hI ?hIx ?h0
    (fun pv i x a' X => ∃ bg, Inn J (fun r => r = bg ∨ (r = by_ ∨ r = bj ∨ r = bq)) (fun b => b = 1) (fun k X => (Blk X by_ 60 #[.func (.yield l) #[] #[]] ∧ Blk X bj 62 #[.int .i64 K, .int .i64 (I : Int), .int .i64 (M : Int)] ∧ Bi.TzT X) ∧ Blk X bg 68 #[.int .i64 x.kd, .int .i64 x.rd, .int .i64 (x.sz : Int), .int .i64 (x.fi : Int)]) (frstA I mp M T) pv i X ∧ a' = { tmps := #[.func (.yield l) #[] #[], .pointer (some ⟨bp, 0, none⟩), .pointer (some ⟨by_, 0, none⟩), .pointer (some ⟨bj, 0, none⟩), .pointer (some ⟨bg, 0, none⟩), undef, undef, .agg #[.int .i64 r, .int .i64 k, .int .i64 b, .int .i64 wk], .agg #[.int .i64 K, .int .i64 (I : Int), .int .i64 (M : Int)], .agg #[.int .i64 K, .int .i64 (I : Int), .int .i64 (M : Int)], .func (.func 54) #[] #[.pointer (some ⟨bq, 0, none⟩)], grV x, undef, undef, undef, undef, undef, undef, undef, undef, undef, undef], defers := [] }) ?hIb ?assign ?body ?done ?stop
  case hI =>
    refine stay_inn hJ ?_
    rintro i X X' ⟨a1, a2, a3⟩ kp
    exact ⟨kp_blk kp a1 (by simp), kp_blk kp a2 (by simp), kp_tz kp a3 (by simp)⟩
  case hIx => exact fun c => stay_and stay_const (stay_out hJx)
  case h0 =>
    refine inn_start J5 ?_ ?_ ⟨qy5, qj5, hT5⟩
    · intro b hb
      rcases hb with rfl | rfl | rfl <;> exact .inr ⟨by omega, by omega⟩
    · intro b hb
      rcases hb with (rfl | rfl | rfl) | rfl <;> omega
  case hIb =>
    rintro pv i x a' X X' b ⟨bg, h1, h2⟩ hb hg
    refine ⟨bg, (stay_inn hJ ?_).put _ _ _ _ _ h1 hb hg, h2⟩
    rintro i X X' ⟨⟨a1, a2, a3⟩, a4⟩ kp
    exact ⟨⟨kp_blk kp a1 (by simp), kp_blk kp a2 (by simp), kp_tz kp a3 (by simp)⟩, kp_blk kp a4 (by simp)⟩
  case assign =>
    rintro l' pv i x X C hl' hI hat hC
    simp only [grV, List.zip_toArray, List.zip_cons_cons, List.zip_nil_right, List.foldl_toArray, List.foldl_cons, List.foldl_nil, List.setIfInBounds_toArray, List.set_cons_zero, List.set_cons_succ]
    gi_wp2_with (first
      | (refine Held.wpListIn_one (r := some l') rfl (by intro c e; cases e) ?_; refine wpList_alloc_blk (w := X) rfl 68 rfl #[.int .i64 0, .int .i64 0, .int .i64 0, .int .i64 0] (by kernel_rfl) ?_; intro X1 qX1 gX1 zX1; refine wpList_nil ⟨rfl, ?_⟩)
      | (refine Held.wpListIn_one (r := some l') rfl (by intro c e; cases e) ?_; refine wpList_store_blk (w := X1) rfl 68 _ _ rfl (X.heap.size) 4 rfl 68 _ #[.int .i64 x.kd, .int .i64 x.rd, .int .i64 (x.sz : Int), .int .i64 (x.fi : Int)] rfl qX1 (by kernel_rfl) rfl rfl (by kernel_rfl) ?_; intro X2 qX2 gX2 zX2; have bx : Below X.heap.size X X2 := ((Below.refl _ X).grown gX1 (Nat.le_refl _) (by simp)).grown gX2 gX1.size (fun r e => by cases e; exact Nat.le_refl _); refine wpList_nil ⟨rfl, ?_⟩))
    refine hC _ _ (KeepsP.of_below bx) ⟨X.heap.size, inn_more hJ hI bx (Nat.le_refl _) qX2.lt ?_, rfl⟩
    rintro ⟨a1, a2, a3⟩ kp
    exact ⟨⟨kp_blk kp a1 (by simp), kp_blk kp a2 (by simp), kp_tz kp a3 (by simp)⟩, qX2⟩
  case body =>
    rintro l' pv i g a' X hl' ⟨lr, hlr⟩ ⟨bg, ⟨pvo, p1, p2, p3, p4, p5, ⟨qy, qj, hT0⟩, qg⟩, rfl⟩ hat
    obtain ⟨hi1, hi2⟩ := HIX.out i g hat
    simp only [hi1, grV] at p2 ⊢
    gi_wp2_with (first
      | (refine Held.wpListIn_one (r := some l') rfl (by intro c e; cases e) ?_; refine wpList_load_blk (w := X) rfl 62 _ rfl (bj) 3 rfl 62 _ qj _ Tryd.underlying62 rfl (by kernel_rfl) rfl ?_; refine wpList_nil ⟨rfl, ?_⟩)
      | (refine Held.wpListIn_one (r := some l') rfl (by intro c e; cases e) ?_; refine wpList_load_blk (w := X) rfl 68 _ rfl (bg) 4 rfl 68 _ qg _ Tryd.underlying68 rfl (by kernel_rfl) rfl ?_; refine wpList_nil ⟨rfl, ?_⟩))
    first | (refine ⟨trivial, fun h => (by cases h), ?_⟩; refine (callsIn_wide.2 (HTK.out i g hat X hT0)).mono ?_) | (refine ⟨trivial, ?_⟩; refine (callsIn_wide.2 (HTK.out i g hat X hT0)).mono ?_)
    rintro e X2 ⟨gf, lb, Nd, rfl, hent, hsq, hNd, b2⟩
    have J2 := hJ.all p2 b2
    have qy2 := qy.after b2
    have qj2 := qj.after b2
    have hT2 := hT0.below b2 hT0.lt
    have hl2 : X2.heap[l']? = some (.loop lr) := (b2.block l' (Array.getElem?_eq_some_iff.1 hlr).1).trans hlr
    have hx2 := b2.size
    have lpv := p5
    have l3y := (p4 by_ (.inl (.inr (.inl rfl)))).2
    have l3j := (p4 bj (.inl (.inr (.inr (.inl rfl))))).2
    have l3q := (p4 bq (.inl (.inr (.inr (.inr rfl))))).2
    have l3T := (p4 1 (.inr rfl)).2
    have n3y := (p4 by_ (.inl (.inr (.inl rfl)))).1
    have n3j := (p4 bj (.inl (.inr (.inr (.inl rfl))))).1
    have n3q := (p4 bq (.inl (.inr (.inr (.inr rfl))))).1
    have n3T := (p4 1 (.inr rfl)).1
    have p3y : pvo by_ := p3 by_ (.inr (.inl rfl))
    have p3j : pvo bj := p3 bj (.inr (.inr (.inl rfl)))
    have p3q : pvo bq := p3 bq (.inr (.inr (.inr rfl)))
    have kX2 : KeepsP (fun b => (b = bq ∨ b = 1) ∨ pv b) X X2 := KeepsP.of_below b2
    clear HTK p4 p3 qy qj hT0 qg b2 p2 hlr
    gi_wp2_with fail
    refine wpIn_rangeFunc_pN rfl hl2 (show 1 ≤ N - 1 - 1 by omega) (gf := gf) (lb := lb) rfl trivial (hent)
      ((hsq (N - 1 - 1 - 1) (by omega)).inRound l') (Below.refl _ _) (fun _ => rfl) (fun b hb => by rcases hNd b hb with rfl | hb <;> omega)
      (Inn J (fun b => (b = by_ ∨ b = bj ∨ b = bq) ∨ pv b ∨ (X.heap.size ≤ b ∧ b < X2.heap.size)) (fun b => b = 1) (fun j Z => (j ≤ g.sz ∧ Blk Z by_ 60 #[.func (.yield l) #[] #[]] ∧ Blk Z bj 62 #[.int .i64 K, .int .i64 (I : Int), .int .i64 (M : Int)] ∧ Bi.TzT Z) ∧ KeepsP (fun b => (b = bq ∨ b = 1) ∨ pv b) X Z) (fun k2 => g.fi + k2))
      (fun c pv2 j Z => c = .ret ∧ ∃ q, Inn Jx (fun b => (b = by_ ∨ b = bj ∨ b = bq) ∨ pv b ∨ (X.heap.size ≤ b ∧ b < X2.heap.size)) (fun b => b = 1) (fun _ Z => KeepsP (fun b => (b = bq ∨ b = 1) ∨ pv b) X Z) (fun _ => q) pv2 j Z) ?iI ?iIx ?i0
      (fun pv2 j y a' Z => ∃ bt, Inn J (fun r => r = bt ∨ ((r = by_ ∨ r = bj ∨ r = bq) ∨ pv r ∨ (X.heap.size ≤ r ∧ r < X2.heap.size))) (fun b => b = 1) (fun j Z => ((j ≤ g.sz ∧ Blk Z by_ 60 #[.func (.yield l) #[] #[]] ∧ Blk Z bj 62 #[.int .i64 K, .int .i64 (I : Int), .int .i64 (M : Int)] ∧ Bi.TzT Z) ∧ KeepsP (fun b => (b = bq ∨ b = 1) ∨ pv b) X Z) ∧ Blk Z bt 34 #[.int .i64 y.2.kd, .int .i64 y.2.rd, .int .i64 y.2.a, .int .i64 y.2.b, .bool y.2.up]) (fun k2 => g.fi + k2) pv2 j Z ∧ a' = { tmps := #[.func (.yield l) #[] #[], .pointer (some ⟨bp, 0, none⟩), .pointer (some ⟨by_, 0, none⟩), .pointer (some ⟨bj, 0, none⟩), .pointer (some ⟨bg, 0, none⟩), .int .i64 (y.1 : Int), .pointer (some ⟨bt, 0, none⟩), .agg #[.int .i64 r, .int .i64 k, .int .i64 b, .int .i64 wk], .agg #[.int .i64 K, .int .i64 (I : Int), .int .i64 (M : Int)], .agg #[.int .i64 K, .int .i64 (I : Int), .int .i64 (M : Int)], .func (.func 54) #[] #[.pointer (some ⟨bq, 0, none⟩)], .agg #[.int .i64 g.kd, .int .i64 g.rd, .int .i64 (g.sz : Int), .int .i64 (g.fi : Int)], .agg #[.int .i64 K, .int .i64 (I : Int), .int .i64 (M : Int)], .agg #[.int .i64 g.kd, .int .i64 g.rd, .int .i64 (g.sz : Int), .int .i64 (g.fi : Int)], .func (.func gf) #[] lb, .int .i64 (y.1 : Int), tkV y.2, undef, undef, undef, undef, undef], defers := [] }) ?iIb ?iassign ?ibody ?idone ?istop
    case iI =>
      refine stay_inn hJ ?_
      rintro j Z Z' ⟨⟨a0, a1, a2, a3⟩, a4⟩ kp
      exact ⟨⟨a0, kp_blk kp a1 (by simp), kp_blk kp a2 (by simp), kp_tz kp a3 (by simp)⟩, a4.trans (kp.less (fun b hb => hb.elim (fun hb => hb.elim (fun e => .inl (.inl (.inr (.inr e)))) .inr) (fun hb => .inl (.inr (.inl hb)))))⟩
    case iIx =>
      refine fun c => stay_and stay_const (stay_ex fun q => stay_inn hJx ?_)
      rintro j Z Z' a4 kp
      exact a4.trans (kp.less (fun b hb => hb.elim (fun hb => hb.elim (fun e => .inl (.inl (.inr (.inr e)))) .inr) (fun hb => .inl (.inr (.inl hb)))))
    case i0 =>
      refine inn_start J2 ?_ ?_ ⟨⟨Nat.zero_le _, qy2, qj2, hT2⟩, kX2⟩
      · intro b hb
        rcases hb with (rfl | rfl | rfl) | hb | hb
        · exact .inl p3y
        · exact .inl p3j
        · exact .inl p3q
        · exact .inl (p1 b hb)
        · exact .inr hb
      · intro b hb
        rcases hb with ((rfl | rfl | rfl) | hb | hb) | rfl
        · omega
        · omega
        · omega
        · have := lpv b hb; omega
        · omega
        · omega
    case iIb =>
      rintro pv2 j y a' Z Z' b ⟨bt, h1, h2⟩ hb hg
      refine ⟨bt, (stay_inn hJ ?_).put _ _ _ _ _ h1 hb hg, h2⟩
      rintro j Z Z' ⟨⟨⟨a0, a1, a2, a3⟩, a4⟩, a5⟩ kp
      exact ⟨⟨⟨a0, kp_blk kp a1 (by simp), kp_blk kp a2 (by simp), kp_tz kp a3 (by simp)⟩, a4.trans (kp.less (fun b hb => hb.elim (fun hb => hb.elim (fun e => .inl (.inr (.inl (.inr (.inr e))))) .inr) (fun hb => .inl (.inr (.inr (.inl hb))))))⟩, kp_blk kp a5 (by simp)⟩
    case iassign =>
      rintro l2 pv2 j y Z C hl2' hI hat2 hC
      simp only [encT, tkV, List.zip_toArray, List.zip_cons_cons, List.zip_nil_right, List.foldl_toArray, List.foldl_cons, List.foldl_nil, List.setIfInBounds_toArray, List.set_cons_zero, List.set_cons_succ]
      gi_wp2_with (first
        | (refine Held.wpListIn_one (r := some l2) rfl (by intro c e; cases e) ?_; refine wpList_alloc_blk (w := Z) rfl 34 rfl #[.int .i64 0, .int .i64 0, .int .i64 0, .int .i64 0, .bool false] (by kernel_rfl) ?_; intro Z1 qZ1 gZ1 zZ1; refine wpList_nil ⟨rfl, ?_⟩)
        | (refine Held.wpListIn_one (r := some l2) rfl (by intro c e; cases e) ?_; refine wpList_store_blk (w := Z1) rfl 34 _ _ rfl (Z.heap.size) 5 rfl 34 _ #[.int .i64 y.2.kd, .int .i64 y.2.rd, .int .i64 y.2.a, .int .i64 y.2.b, .bool y.2.up] rfl qZ1 (by kernel_rfl) rfl rfl (by kernel_rfl) ?_; intro Z2 qZ2 gZ2 zZ2; have bx : Below Z.heap.size Z Z2 := ((Below.refl _ Z).grown gZ1 (Nat.le_refl _) (by simp)).grown gZ2 gZ1.size (fun r e => by cases e; exact Nat.le_refl _); refine wpList_nil ⟨rfl, ?_⟩))
      refine hC _ _ (KeepsP.of_below bx) ⟨Z.heap.size, inn_more hJ hI bx (Nat.le_refl _) qZ2.lt ?_, rfl⟩
      rintro ⟨⟨a0, a1, a2, a3⟩, a4⟩ kp
      exact ⟨⟨⟨a0, kp_blk kp a1 (by simp), kp_blk kp a2 (by simp), kp_tz kp a3 (by simp)⟩, a4.trans (kp.less (fun b hb => hb.elim (fun hb => hb.elim (fun e => .inl (.inl (.inr (.inr e)))) .inr) (fun hb => .inl (.inr (.inl hb)))))⟩, qZ2⟩
    case ibody =>
      rintro l2 pv2 j y a' Z hl2' - ⟨bt, ⟨pvi, i1, i2, i3, i4, i5, ⟨⟨i6, qy, qj, hT0⟩, kXZ⟩, qt⟩, rfl⟩ hat2
      have hjs := HGL.out i j g y hat hat2
      have ci := qy.cell (i := 0) rfl
      obtain ⟨fn, tmps, assign, body, hy, hR⟩ := HY.out pvi (g.fi + j) y Z i2 (HAT.out i j g y hat hat2)
      have hy : (Instr.yield l #[.int .i64 (y.1 : Int), .agg #[.int .i64 y.2.kd, .int .i64 y.2.rd, .int .i64 y.2.a, .int .i64 y.2.b, .bool y.2.up]]).run Tryd.prog Z = .ok (.round l fn tmps assign body) Z := hy
      gi_wp2_with (first
        | (refine Held.wpListIn_one (r := some l2) rfl (by intro c e; cases e) ?_; refine wpList_load_blk (w := Z) rfl 34 _ rfl (bt) 5 rfl 34 _ qt _ Tryd.underlying34 rfl (by kernel_rfl) rfl ?_; refine wpList_nil ⟨rfl, ?_⟩))
      first | refine (round_wide (r := some l2) hR).mono ?_ | (refine ⟨fun h => (by cases h), ?_⟩; refine (round_wide (r := some l2) hR).mono ?_)
      rintro e Z2 ⟨kp, hor⟩
      have kN : KeepsP (fun b => Nd b ∨ pv2 b) Z Z2 := KeepsP.less kp (fun b hb => hb.elim (fun hb => (hNd b hb).elim .inl (fun hb => .inr (i3 b (.inr (.inr (.inr hb)))))) (fun hb => .inr (i1 b hb)))
      have kXZ2 : KeepsP (fun b => (b = bq ∨ b = 1) ∨ pv b) X Z2 := kXZ.trans (KeepsP.less kp (fun b hb => hb.elim (fun hb => hb.elim (fun e => .inr (i3 b (.inr (.inl (.inr (.inr e)))))) .inl) (fun hb => .inr (i3 b (.inr (.inr (.inl hb)))))))
      have qy2' := kp_blk kp qy (.inr (i3 by_ (.inr (.inl (.inl rfl)))))
      have qj2' := kp_blk kp qj (.inr (i3 bj (.inr (.inl (.inr (.inl rfl))))))
      have hT2' := kp_tz kp hT0 (.inl rfl)
      have hzz := kN.size
      have j3 : ∀ b, ((b = by_ ∨ b = bj ∨ b = bq) ∨ pv b ∨ (X.heap.size ≤ b ∧ b < X2.heap.size)) → pvi b := fun b hb => i3 b (.inr hb)
      have j4 : ∀ b, (((b = by_ ∨ b = bj ∨ b = bq) ∨ pv b ∨ (X.heap.size ≤ b ∧ b < X2.heap.size)) ∨ b = 1) → ¬ pv2 b ∧ b < Z2.heap.size := fun b hb => ⟨(i4 b (hb.elim (fun h => .inl (.inr h)) .inr)).1, Nat.lt_of_lt_of_le (i4 b (hb.elim (fun h => .inl (.inr h)) .inr)).2 hzz⟩
      have j5 : ∀ b, pv2 b → b < Z2.heap.size := fun b hb => Nat.lt_of_lt_of_le (i5 b hb) hzz
      rcases hor with ⟨rfl, J3⟩ | ⟨rfl, x3⟩
      · clear hR hy i3 i4 i5 kp qy qj hT0 kXZ qt ci
        gi_wp2_with fail
        exact ⟨kN, pvi, i1, J3, j3, j4, j5, ⟨⟨hjs, qy2', qj2', hT2'⟩, kXZ2⟩⟩
      · clear hR hy i3 i4 i5 kp qy qj hT0 kXZ qt ci
        gi_wp2_with fail
        exact ⟨kN, rfl, _, pvi, i1, x3, j3, j4, j5, kXZ2⟩
    case idone =>
      rintro pv2 j Z hat2 ⟨pvi, i1, i2, i3, i4, i5, ⟨⟨i6, qy, qj, hT0⟩, kXZ⟩⟩
      obtain rfl := HGE.out i j g hat i6 hat2
      have hzz := kXZ.size
      gi_wp2_with fail
      refine ⟨kXZ, pvi, fun b hb => i3 b (.inr (.inl hb)), by rw [hi2]; exact i2, fun b hb => i3 b (.inl hb), fun b hb => ?_, fun b hb => by have := lpv b hb; omega, qy, qj, hT0⟩
      rcases hb with (rfl | rfl | rfl) | rfl
      · exact ⟨n3y, by omega⟩
      · exact ⟨n3j, by omega⟩
      · exact ⟨n3q, by omega⟩
      · exact ⟨n3T, by omega⟩
    case istop =>
      rintro c pv2 j Z ⟨rfl, q, pvi, i1, i2, i3, i4, i5, kXZ⟩
      gi_wp2_with fail
      exact ⟨kXZ, rfl, pvi, _, fun b hb => i3 b (.inr (.inl hb)), i2⟩
  case stop =>
    rintro D cc pv i X ⟨rfl, pvo, k', p1, x2⟩ hD hDh
    gi_wp2_with fail
    refine ⟨by simp, .inl ⟨_, _, rfl, run_takeDeferred hDh, ?_⟩⟩
    exact ⟨_, results_none rfl _ _ _, ⟨_, rfl⟩, .inr ⟨pvo, k', hJx.put _ _ _ _ D x2 (p1 D hD) (grownBy_putObj' _ _ _)⟩⟩
  case done =>
    rintro D pv i X hat ⟨pvo, p1, p2, -⟩ hD hDh
    gi_wp2_with fail
    refine ⟨by simp, .inl ⟨_, _, rfl, run_takeDeferred hDh, ?_⟩⟩
    exact ⟨_, results_none rfl _ _ _, ⟨_, rfl⟩, .inl ⟨pvo, _, HEN.out i hat, hJ.put _ _ _ _ D p2 (p1 D hD) (grownBy_putObj' _ _ _)⟩⟩
end Go.Proofs.YtipmfficjomcoaaDoor.Sh
namespace Go.Proofs.YtipmfficjomcoaaDoor.Sh
open Go.RowKit Go.Shelf Mem Held Go.Proofs.YtipmfficjomcoaaDoor.Range Sl
attribute [local go_sem] Oper.semAt_some
attribute [local irreducible] wpList wpListIn Calls
theorem tasks_length {K : Int} {I mp M T : Nat} (h : JobP K I mp M T) : (tasksT I mp M T).length = cnK I mp M T 6 := by
  rw [← grs_tasks]
  exact (grs_chn h).2
theorem frst_end {I mp M T k : Nat} (hg : (grs I mp M T)[k]? = none) : frstA I mp M T k = (tasksT I mp M T).length := by
  unfold frstA
  rw [take_end hg, grs_tasks]
theorem frst_le {K : Int} {I mp M T k : Nat} (h : JobP K I mp M T) : frstA I mp M T k ≤ 1000 := by
  have h6 := cn_le h (Nat.le_refl 6)
  rw [← tasks_length h, ← grs_tasks] at h6
  refine Nat.le_trans ?_ h6
  unfold frstA
  conv => rhs; rw [← List.take_append_drop k (grs I mp M T), List.flatMap_append, List.length_append]
  omega
set_option maxRecDepth 100000 in
set_option maxHeartbeats 8000000 in
theorem count_any (r k b wk : Int) (hk0 : -9223372036854775808 ≤ k) (hk1 : k ≤ 9223372036854775807) (w : World) (hT : Bi.TzT w) :
    Calls Tryd.prog 14 #[.agg #[.int .i64 r, .int .i64 k, .int .i64 b, .int .i64 wk]] w fun e w' => e = .returned (.int .i64 ((tasksT (inN r k b wk) (mpN r k b wk) (mN r k b wk) (tN r k b wk)).length : Int)) ∧ Below w.heap.size w w' := by
  have h := job_of (r := r) (b := b) (wk := wk) hk0 hk1
  have HJ := Lib.hid (fun (W : World) => jobOf_any r k b wk W)
  generalize inN r k b wk = I at *
  generalize mpN r k b wk = mp at *
  generalize mN r k b wk = M at *
  generalize tN r k b wk = T at *
  clear hk0 hk1
  have HGP := Lib.hid (fun (N bq : Nat) (X : World) (q : Blk X bq 62 #[.int .i64 k, .int .i64 (I : Int), .int .i64 (M : Int)]) (hT : Bi.TzT X) => groups_p N bq k I mp M T h X q hT)
  have HIX := Lib.hid (fun (i : Nat) (g : Gr) (hg : (grs I mp M T)[i]? = some g) => show frstA I mp M T i = g.fi ∧ frstA I mp M T (i + 1) = g.fi + g.sz from ⟨by unfold frstA; have := (chn_at (grs_chn h).1 hg).1; omega, take_next (grs_chn h).1 hg⟩)
  have HFE := Lib.hid (fun (i : Nat) (hg : (grs I mp M T)[i]? = none) => frst_end hg)
  have HFL := Lib.hid (fun (i : Nat) => frst_le (k := i) h)
  have hlT := hT.lt
  clear h
  refine (callsIn_wide (n := 9)).1 ?_
  refine callsIn_of_wp_marks Tryd.func14 rfl trivial ?_ rfl
  simp only [Tryd.ntmps14, List.size_toArray, List.length_cons, List.length_nil, Nat.reduceAdd, Nat.reduceSub, Array.replicate_succ, Array.replicate_zero, List.push_toArray, List.append_toArray, List.nil_append, List.cons_append]
  refine wpIn_wide.2 ?_
  go_wp2_with (first
    | (refine wpList_box_blk (w := w) rfl 23 _ rfl _ rfl ?_; intro u1 qu1 gu1 zu1)
    | (refine Held.wpList_alloc_cell (w := u1) rfl 3 rfl (.int .i64 0) (by kernel_rfl) rfl ?_; intro u2 q2 g2 z2)
    | (refine Held.wpList_store_box (w := u2) rfl 3 _ _ rfl u1.heap.size rfl 3 _ (.int .i64 0) rfl q2 (by kernel_rfl) rfl rfl ?_; intro u3 q3 g3; have q3 : Blk u3 u1.heap.size 3 #[.int .i64 0] := q3; have b3 : Below u1.heap.size u1 u3 := ((Below.refl _ u1).grown g2 (Nat.le_refl _) (by simp)).grown g3 g2.size (fun r e => by cases e; exact Nat.le_refl _); have qp3 := qu1.after b3)
    | (refine wpList_load_blk (w := u3) rfl 23 _ rfl (w.heap.size) 4 rfl 23 _ qp3 _ Tryd.underlying23 rfl (by kernel_rfl) rfl ?_))
  refine (HJ.out u3).mono ?_
  rintro e u4 ⟨rfl, b4⟩
  go_wp2_with fail
  refine (groups_any k I M u4).mono ?_
  rintro e u5 ⟨bq, rfl, qq, hbq, b5⟩
  have qc5 := (q3.after b4).after b5
  have b1 : Below w.heap.size w u1 := (Below.refl _ w).grown gu1 (Nat.le_refl _) (by simp)
  have bb : Below w.heap.size w u5 := b1.trans ((b3.mono b1.size).trans ((b4.mono (Nat.le_trans b1.size b3.size)).trans (b5.mono (Nat.le_trans b1.size (Nat.le_trans b3.size b4.size)))))
  have hT5 := hT.below bb hlT
  have l1 : w.heap.size < u1.heap.size := qu1.lt
  have lc : u1.heap.size < u3.heap.size := q3.lt
  have l34 := b4.size
  have l45 := b5.size
  have lq : bq < u5.heap.size := qq.lt
  have hit := HGP.out (9 - 1) bq u5 qq hT5
  have hk0 : KeepsP (fun b => b < w.heap.size) w u5 := ⟨bb.os, bb.tape, bb.output, bb.size, fun r o hr ho => (bb.block r hr).trans ho⟩
  generalize hbc : u1.heap.size = bc at *
  clear b1 b3 b4 b5 bb q2 q3 qp3 gu1 g2 g3 zu1 z2 HGP HJ qq
  go_wp2_with fail
  refine (wpIn_wide (n := 9)).1 ?_
  refine wpIn_rangeFunc_p rfl (by omega) (gf := 54) (lb := #[.pointer (some ⟨bq, 0, none⟩)]) rfl trivial (enters_of Tryd.func54 (by kernel_rfl) rfl)
    hit (Below.refl _ _) (fun _ => rfl) (fun b hb => by rcases hb with rfl | rfl <;> omega)
    (Inn (fun _ _ _ => True) (fun b => b = bc ∨ b = bq) (fun b => b < w.heap.size) (fun i X => Blk X bc 3 #[.int .i64 (frstA I mp M T i : Int)] ∧ KeepsP (fun b => b < w.heap.size) w X) id) (fun _ _ _ _ => False) ?hI (fun c => stay_const) ?h0
    (fun pv i x a' X => ∃ bg, Inn (fun _ _ _ => True) (fun b => b = bg ∨ (b = bc ∨ b = bq)) (fun b => b < w.heap.size) (fun i X => (Blk X bc 3 #[.int .i64 (frstA I mp M T i : Int)] ∧ KeepsP (fun b => b < w.heap.size) w X) ∧ Blk X bg 68 #[.int .i64 x.kd, .int .i64 x.rd, .int .i64 (x.sz : Int), .int .i64 (x.fi : Int)]) id pv i X ∧ a' = { tmps := #[.agg #[.int .i64 r, .int .i64 k, .int .i64 b, .int .i64 wk], .pointer (some ⟨w.heap.size, 0, none⟩), .int .i64 0, .pointer (some ⟨bc, 0, none⟩), .pointer (some ⟨bg, 0, none⟩), .agg #[.int .i64 r, .int .i64 k, .int .i64 b, .int .i64 wk], .agg #[.int .i64 k, .int .i64 (I : Int), .int .i64 (M : Int)], .func (.func 54) #[] #[.pointer (some ⟨bq, 0, none⟩)], grV x, undef, undef, undef, undef, undef], defers := [] }) ?hIb ?assign ?body ?done ?stop
  case hI =>
    refine stay_inn stay_true ?_
    rintro i X X' ⟨a1, a2⟩ kp
    exact ⟨kp_blk kp a1 (by simp), a2.trans (kp.less fun b hb => .inr hb)⟩
  case h0 =>
    refine inn_start (pvo := fun _ => True) trivial (fun _ _ => trivial) ?_ ⟨by rw [show frstA I mp M T 0 = 0 by simp [frstA]]; exact qc5, hk0⟩
    intro b hb
    rcases hb with (rfl | rfl) | hb <;> omega
  case hIb =>
    rintro pv i x a' X X' b ⟨bg, h1, h2⟩ hb hg
    refine ⟨bg, (stay_inn stay_true ?_).put _ _ _ _ _ h1 hb hg, h2⟩
    rintro i X X' ⟨⟨a1, a2⟩, a3⟩ kp
    exact ⟨⟨kp_blk kp a1 (by simp), a2.trans (kp.less fun b hb => .inr hb)⟩, kp_blk kp a3 (by simp)⟩
  case assign =>
    rintro l' pv i x X C hl' hI hat hC
    simp only [grV, List.zip_toArray, List.zip_cons_cons, List.zip_nil_right, List.foldl_toArray, List.foldl_cons, List.foldl_nil, List.setIfInBounds_toArray, List.set_cons_zero, List.set_cons_succ]
    gi_wp2_with (first
      | (refine Held.wpListIn_one (r := some l') rfl (by intro c e; cases e) ?_; refine wpList_alloc_blk (w := X) rfl 68 rfl #[.int .i64 0, .int .i64 0, .int .i64 0, .int .i64 0] (by kernel_rfl) ?_; intro X1 qX1 gX1 zX1; refine wpList_nil ⟨rfl, ?_⟩)
      | (refine Held.wpListIn_one (r := some l') rfl (by intro c e; cases e) ?_; refine wpList_store_blk (w := X1) rfl 68 _ _ rfl (X.heap.size) 4 rfl 68 _ #[.int .i64 x.kd, .int .i64 x.rd, .int .i64 (x.sz : Int), .int .i64 (x.fi : Int)] rfl qX1 (by kernel_rfl) rfl rfl (by kernel_rfl) ?_; intro X2 qX2 gX2 zX2; have bx : Below X.heap.size X X2 := ((Below.refl _ X).grown gX1 (Nat.le_refl _) (by simp)).grown gX2 gX1.size (fun r e => by cases e; exact Nat.le_refl _); refine wpList_nil ⟨rfl, ?_⟩))
    refine hC _ _ (KeepsP.of_below bx) ⟨X.heap.size, inn_more stay_true hI bx (Nat.le_refl _) qX2.lt ?_, rfl⟩
    rintro ⟨a1, a2⟩ kp
    exact ⟨⟨kp_blk kp a1 (by simp), a2.trans (kp.less fun b hb => .inr hb)⟩, qX2⟩
  case body =>
    rintro l' pv i g a' X hl' - ⟨bg, ⟨pvo, p1, -, p3, p4, p5, ⟨qc, kw⟩, qg⟩, rfl⟩ hat
    obtain ⟨hi1, hi2⟩ := HIX.out i g hat
    have hl := HFL.out (i + 1)
    have qc : Blk X bc 3 #[.int .i64 (frstA I mp M T i : Int)] := qc
    simp only [hi1, grV] at qc ⊢
    rw [hi2] at hl
    have HI2 := Lib.hid hi2
    have hadd : IntKind.i64.wrap ((g.fi : Int) + (g.sz : Int)) = (g.fi : Int) + (g.sz : Int) := by rw [IntKind.wrap_i64]; omega
    have cc := qc.cell (i := 0) rfl
    have cg := qg.cell (i := 2) rfl
    have nc := (p4 bc (.inl (.inr (.inl rfl)))).1
    have nq := (p4 bq (.inl (.inr (.inr rfl)))).1
    clear hi1 hi2
    gi_wp2_with (first
      | (refine Held.wpListIn_one (r := some l') rfl (by intro c e; cases e) ?_; refine wpList_fld0 (w := X) rfl rfl rfl Tryd.underlying68 rfl (by kernel_rfl) ?_; refine wpList_nil ⟨rfl, ?_⟩)
      | (refine Held.wpListIn_one (r := some l') rfl (by intro c e; cases e) ?_; refine Held.wpList_store_box (w := X) rfl 3 _ _ rfl bc rfl 3 _ (.int .i64 ((g.fi : Int) + (g.sz : Int))) rfl qc (by kernel_rfl) rfl rfl ?_; intro X2 q2 g2; refine wpList_nil ⟨rfl, ?_⟩))
    have q2 : Blk X2 bc 3 #[.int .i64 ((g.fi : Int) + (g.sz : Int))] := q2
    refine ⟨KeepsP.of_grown g2 (fun b e hb => ?_), fun _ => True, fun _ _ => trivial, trivial, fun _ _ => trivial, fun b hb => ⟨?_, ?_⟩, fun b hb => Nat.lt_of_lt_of_le (p5 b hb) g2.size, ?_, kw.trans (KeepsP.of_grown g2 (fun b e hb => ?_))⟩
    · injection e with e
      subst e
      rcases hb with hb | hb
      · rcases hb with rfl | rfl <;> omega
      · exact nc hb
    · rcases hb with hb | hb
      · exact (p4 b (.inl (.inr hb))).1
      · exact (p4 b (.inr hb)).1
    · rcases hb with hb | hb
      · exact Nat.lt_of_lt_of_le (p4 b (.inl (.inr hb))).2 g2.size
      · exact Nat.lt_of_lt_of_le (p4 b (.inr hb)).2 g2.size
    · show Blk X2 bc 3 #[.int .i64 (frstA I mp M T (i + 1) : Int)]
      rw [HI2.out]
      exact q2
    · injection e with e
      subst e
      omega
  case stop => exact fun _ _ _ _ _ h => h.elim
  case done =>
    rintro D pv i X hat ⟨pvo, p1, -, p3, p4, p5, qc, kw⟩ hD hDh
    have qc : Blk X bc 3 #[.int .i64 (frstA I mp M T i : Int)] := qc
    rw [HFE.out i hat] at qc
    have cc := qc.cell (i := 0) rfl
    have hDw : w.heap.size ≤ D := Nat.le_of_not_lt fun h => (p4 D (.inr h)).1 hD
    go_wp2_with fail
    refine ⟨by simp, .inl ⟨_, _, rfl, run_takeDeferred hDh, ?_⟩⟩
    exact ⟨_, results_tmp rfl _ _ _, rfl, (kw.below (Nat.le_refl _) (fun _ h => h)).grown (grownBy_putObj' X D _) kw.size (fun r e => by injection e with e; omega)⟩
end Go.Proofs.YtipmfficjomcoaaDoor.Sh
namespace Go.Proofs.YtipmfficjomcoaaDoor.Sh
open Go.RowKit Go.Shelf Mem Held Go.Proofs.YtipmfficjomcoaaDoor.Range Sl
structure TwoT (w V : World) (B gx gy : Nat) (ux uy vx vy : Value) (xs : List Int) (ys : List Tk) (pv : Nat → Prop) (W : World) : Prop where
  lx : gx < B
  ly : gy < B
  ne : gx ≠ gy
  hx : w.heap.size ≤ gx
  hy : w.heap.size ≤ gy
  cx : W.heap[gx]? = some (.cells #[ux] 30 (0, 0))
  cy : W.heap[gy]? = some (.cells #[uy] 28 (0, 0))
  ox : Mem.Own W B 3 .i64 vx xs
  oy : OwnL kT 34 W B vy ys
  low : ∀ b, b < B → b ≠ gx → b ≠ gy → W.heap[b]? = V.heap[b]?
  bel : Below w.heap.size w W
  sz : B ≤ W.heap.size
  pv : ∀ r, pv r → B ≤ r ∧ r < W.heap.size ∧ vx.ownBlock ≠ some r ∧ vy.ownBlock ≠ some r
section
variable {w V W W' : World} {B gx gy : Nat} {ux uy vx vy : Value} {xs : List Int} {ys : List Tk} {pv pv' : Nat → Prop}
theorem TwoT.keep (h : TwoT w V B gx gy ux uy vx vy xs ys pv W) {row : Option Nat} (hg : W.grownBy W' row) (hr : ∀ r, row = some r → B ≤ r ∧ vx.ownBlock ≠ some r ∧ vy.ownBlock ≠ some r) (h2 : ∀ r, pv' r → pv r ∨ (W.heap.size ≤ r ∧ r < W'.heap.size)) : TwoT w V B gx gy ux uy vx vy xs ys pv' W' := by
  have hne : ∀ i, i < B → some i ≠ row := fun i hi e => by have := (hr i e.symm).1; omega
  have nx : vx.ownBlock = none ∨ vx.ownBlock ≠ row := by
    cases hq : vx.ownBlock with
    | none => exact .inl rfl
    | some b => exact .inr fun e => (hr b e.symm).2.1 hq
  have ny : vy.ownBlock = none ∨ vy.ownBlock ≠ row := by
    cases hq : vy.ownBlock with
    | none => exact .inl rfl
    | some b => exact .inr fun e => (hr b e.symm).2.2 hq
  have hs := hg.size
  refine ⟨h.lx, h.ly, h.ne, h.hx, h.hy, Held.keep_cells h.cx hg (hne _ h.lx), Held.keep_cells h.cy hg (hne _ h.ly), h.ox.kept hg nx, h.oy.kept hg ny, fun b hb h1 h2 => (hg.block b (Nat.lt_of_lt_of_le hb h.sz) (hne b hb)).trans (h.low b hb h1 h2), h.bel.grown hg (by have := h.sz; have := h.hx; have := h.lx; omega) (fun r e => by have := (hr r e).1; have := h.hx; have := h.lx; omega), Nat.le_trans h.sz hg.size, fun r hp => ?_⟩
  rcases h2 r hp with hp | ⟨a, b⟩
  · have := h.pv r hp
    exact ⟨this.1, by omega, this.2.2⟩
  · refine ⟨by have := h.sz; omega, b, fun e => ?_, fun e => ?_⟩
    · have := (h.ox.2.lt r e).2; omega
    · have := (h.oy.lt r e).2; omega
theorem TwoT.after (h : TwoT w V B gx gy ux uy vx vy xs ys pv W) (hb : Below W.heap.size W W') : TwoT w V B gx gy ux uy vx vy xs ys pv W' := h.keep (grown_of_below hb none) (fun r e => by cases e) (fun r hr => .inl hr)
theorem TwoT.appX (h : TwoT w V B gx gy ux uy vx vy xs ys pv W) {v2 : Value} {xs2 : List Int} (o : Mem.Own W' B 3 .i64 v2 xs2) (hg : W.grownBy W' vx.ownBlock) (h3 : v2.ownBlock = vx.ownBlock ∨ v2.ownBlock = some W.heap.size) : TwoT w V B gx gy ux uy v2 vy xs2 ys pv W' := by
  have hlt : ∀ r, vx.ownBlock = some r → B ≤ r := fun r e => (h.ox.2.lt r e).1
  have hne : ∀ i, i < B → some i ≠ vx.ownBlock := fun i hi e => by have := hlt i e.symm; omega
  have hs := hg.size
  have ny : vy.ownBlock = none ∨ vy.ownBlock ≠ vx.ownBlock := by
    rcases own_nt h.oy h.ox with e | e
    · rw [e]; cases vy.ownBlock <;> simp
    · exact .inr (Ne.symm e)
  refine ⟨h.lx, h.ly, h.ne, h.hx, h.hy, Held.keep_cells h.cx hg (hne _ h.lx), Held.keep_cells h.cy hg (hne _ h.ly), o, h.oy.kept hg ny, fun b hb h1 h2 => (hg.block b (Nat.lt_of_lt_of_le hb h.sz) (hne b hb)).trans (h.low b hb h1 h2), h.bel.grown hg (by have := h.sz; have := h.hx; have := h.lx; omega) (fun r e => by have := hlt r e; have := h.hx; have := h.lx; omega), Nat.le_trans h.sz hg.size, fun r hp => ?_⟩
  have hq := h.pv r hp
  refine ⟨hq.1, by omega, fun e => ?_, hq.2.2.2⟩
  rcases h3 with h3 | h3
  · rw [h3] at e; exact hq.2.2.1 e
  · rw [h3] at e
    injection e with e
    omega
theorem TwoT.appY (h : TwoT w V B gx gy ux uy vx vy xs ys pv W) {v2 : Value} {ys2 : List Tk} (o : OwnL kT 34 W' B v2 ys2) (hg : W.grownBy W' vy.ownBlock) (h3 : v2.ownBlock = vy.ownBlock ∨ v2.ownBlock = some W.heap.size) : TwoT w V B gx gy ux uy vx v2 xs ys2 pv W' := by
  have hlt : ∀ r, vy.ownBlock = some r → B ≤ r := fun r e => (h.oy.lt r e).1
  have hne : ∀ i, i < B → some i ≠ vy.ownBlock := fun i hi e => by have := hlt i e.symm; omega
  have hs := hg.size
  refine ⟨h.lx, h.ly, h.ne, h.hx, h.hy, Held.keep_cells h.cx hg (hne _ h.lx), Held.keep_cells h.cy hg (hne _ h.ly), h.ox.kept hg (own_nt h.oy h.ox), o, fun b hb h1 h2 => (hg.block b (Nat.lt_of_lt_of_le hb h.sz) (hne b hb)).trans (h.low b hb h1 h2), h.bel.grown hg (by have := h.sz; have := h.hx; have := h.lx; omega) (fun r e => by have := hlt r e; have := h.hx; have := h.lx; omega), Nat.le_trans h.sz hg.size, fun r hp => ?_⟩
  have hq := h.pv r hp
  refine ⟨hq.1, by omega, hq.2.2.1, fun e => ?_⟩
  rcases h3 with h3 | h3
  · rw [h3] at e; exact hq.2.2.2 e
  · rw [h3] at e
    injection e with e
    omega
theorem TwoT.putX (h : TwoT w V B gx gy ux uy vx vy xs ys pv W) {u : Value} (hc : W'.heap[gx]? = some (.cells #[u] 30 (0, 0))) (hg : W.grownBy W' (some gx)) : TwoT w V B gx gy u uy vx vy xs ys pv W' := by
  have hnx : vx.ownBlock = none ∨ vx.ownBlock ≠ some gx := .inr fun e => by have := (h.ox.2.lt gx e).1; have := h.lx; omega
  have hny : vy.ownBlock = none ∨ vy.ownBlock ≠ some gx := .inr fun e => by have := (h.oy.lt gx e).1; have := h.lx; omega
  have hs := hg.size
  exact ⟨h.lx, h.ly, h.ne, h.hx, h.hy, hc, Held.keep_cells h.cy hg (fun e => by injection e with e; exact h.ne e.symm), h.ox.kept hg hnx, h.oy.kept hg hny, fun b hb h1 h2 => (hg.block b (Nat.lt_of_lt_of_le hb h.sz) (fun e => by injection e with e; exact h1 e)).trans (h.low b hb h1 h2), h.bel.grown hg (by have := h.sz; have := h.hx; have := h.lx; omega) (fun r e => by cases e; exact h.hx), Nat.le_trans h.sz hg.size, fun r hp => by have := h.pv r hp; exact ⟨this.1, by omega, this.2.2⟩⟩
theorem TwoT.putY (h : TwoT w V B gx gy ux uy vx vy xs ys pv W) {u : Value} (hc : W'.heap[gy]? = some (.cells #[u] 28 (0, 0))) (hg : W.grownBy W' (some gy)) : TwoT w V B gx gy ux u vx vy xs ys pv W' := by
  have hnx : vx.ownBlock = none ∨ vx.ownBlock ≠ some gy := .inr fun e => by have := (h.ox.2.lt gy e).1; have := h.ly; omega
  have hny : vy.ownBlock = none ∨ vy.ownBlock ≠ some gy := .inr fun e => by have := (h.oy.lt gy e).1; have := h.ly; omega
  have hs := hg.size
  exact ⟨h.lx, h.ly, h.ne, h.hx, h.hy, Held.keep_cells h.cx hg (fun e => by injection e with e; exact h.ne e), hc, h.ox.kept hg hnx, h.oy.kept hg hny, fun b hb h1 h2 => (hg.block b (Nat.lt_of_lt_of_le hb h.sz) (fun e => by injection e with e; exact h2 e)).trans (h.low b hb h1 h2), h.bel.grown hg (by have := h.sz; have := h.hx; have := h.lx; omega) (fun r e => by cases e; exact h.hy), Nat.le_trans h.sz hg.size, fun r hp => by have := h.pv r hp; exact ⟨this.1, by omega, this.2.2⟩⟩
theorem TwoT.keeps {Nd : Nat → Prop} (h : TwoT w V B gx gy ux uy vx vy xs ys pv W) (hN : ∀ r, Nd r → r < w.heap.size) {row : Option Nat} (hg : W.grownBy W' row) (hr : row = none ∨ row = some gx ∨ row = some gy ∨ row = vx.ownBlock ∨ row = vy.ownBlock) : KeepsP (fun r => Nd r ∨ pv r) W W' :=
  KeepsP.of_grown hg fun r e hp => by
    have a1 := h.hx
    have a2 := h.hy
    have a3 := h.lx
    have a4 := h.ly
    rcases hp with hp | hp
    · have hl := hN r hp
      rcases hr with rfl | rfl | rfl | rfl | rfl
      · cases e
      · injection e with e; omega
      · injection e with e; omega
      · have := (h.ox.2.lt r e).1; omega
      · have := (h.oy.lt r e).1; omega
    · have hq := h.pv r hp
      rcases hr with rfl | rfl | rfl | rfl | rfl
      · cases e
      · injection e with e; omega
      · injection e with e; omega
      · exact hq.2.2.1 e
      · exact hq.2.2.2 e
end
def numsI (n : Nat) : List Int := (List.range n).map fun (i : Nat) => (i : Int)
theorem numsI_length (n : Nat) : (numsI n).length = n := by simp [numsI]
theorem numsI_next (n : Nat) : numsI (n + 1) = numsI n ++ [(n : Int)] := by simp [numsI, List.range_succ]
def IT (w V : World) (B gx gy : Nat) (l : List Tk) (pv : Nat → Prop) (k : Nat) (W : World) : Prop := k ≤ l.length ∧ ∃ vx vy, TwoT w V B gx gy vx vy vx vy (numsI k) (l.take k) pv W
theorem IT.stay (w V : World) (B gx gy : Nat) (l : List Tk) : Stay (IT w V B gx gy l) where
  new pv pv' s W W' h hg h1 h2 := by
    obtain ⟨hk, vx, vy, h⟩ := h
    exact ⟨hk, vx, vy, h.keep hg (fun r e => by cases e) h2⟩
  put pv s W W' r h hr hg := by
    obtain ⟨hk, vx, vy, h⟩ := h
    exact ⟨hk, vx, vy, h.keep hg (fun r' e => by injection e with e; subst e; have := h.pv _ hr; exact ⟨this.1, this.2.2⟩) (fun r hr => .inl hr)⟩
end Go.Proofs.YtipmfficjomcoaaDoor.Sh
