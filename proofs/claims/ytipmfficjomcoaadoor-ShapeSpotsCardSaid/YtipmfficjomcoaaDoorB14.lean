/-
  Package shape's Makes, by its contract.
  What the frame of a proof says of a program, a pair, a list of truths that came in.
-/
import Derived.Test.YtipmfficjomcoaaDoorB10
import Derived.Test.YtipmfficjomcoaaDoorB5
import Derived.Test.YtipmfficjomcoaaDoorB4
import Derived.WideShapes
import Derived.ChangeArms
set_option linter.unusedVariables false
namespace Go.Proofs.YtipmfficjomcoaaDoor.Sh
open Go.RowKit Go.Shelf Mem Held Go.Proofs.YtipmfficjomcoaaDoor.Range Sl
attribute [local go_sem] Oper.semAt_some
attribute [local irreducible] wpList wpListIn Calls
theorem contains_b (B : Nat) (A : Option Addr) (n c : Nat) (zs : List Int) (x : Int) (w : World) (h : Ints w .i64 B A n zs) (hn : n ≤ 1000000) :
    Calls Tryd.prog 46 #[.slice A n c, .int .i64 x] w fun e w' => e = .returned (.bool (decide (x ∈ zs))) ∧ Below w.heap.size w w' := by
  refine (contains_any B A n c zs x w h hn).mono ?_
  rintro e w' ⟨rfl, rfl⟩
  exact ⟨rfl, Below.refl _ _⟩
theorem phases_length (kd : Int) : (phasesT kd).length ≤ 2 := by
  unfold phasesT
  split
  · simp
  · split
    · simp
    · split
      · simp
      · split <;> simp
theorem addrs_length {K : Int} {t : Tk} (hK : t.kd = 1 → 0 ≤ K ∧ K ≤ 4) : (addrsT K t).length ≤ 4 := by
  unfold addrsT
  split
  · rename_i hk
    have := hK hk
    simp
    omega
  · split <;> simp
def NoW (K : Int) (l : List Tk) (s : Sp) (m : Nat) : Prop := ∀ (j : Nat) (u : Tk), j < m → l[j]? = some u → s ∉ writesT K u
theorem grp_task {K : Int} {I mp M T i j : Nat} {g : Gr} {t : Tk} (h : JobP K I mp M T) (hg : (grs I mp M T)[i]? = some g) (ht : (tkOf mp M g)[j]? = some t) : t.kd = g.kd ∧ t.rd = g.rd := by
  obtain ⟨hr, -⟩ := grs_says h hg
  have hm := List.mem_of_getElem? ht
  unfold tkOf at hm
  split at hm
  · rename_i h0
    obtain ⟨a, _, rfl⟩ := List.mem_map.1 hm
    exact ⟨rfl, h0.symm⟩
  · rename_i h0
    obtain ⟨r, _, hrd⟩ := hr.resolve_left h0
    obtain ⟨a, _, rfl⟩ := List.mem_map.1 hm
    refine ⟨rfl, ?_⟩
    show (((g.rd - 1).toNat : Nat) : Int) + 1 = g.rd
    omega
theorem skip_group {K : Int} {I mp M T i : Nat} {g : Gr} {s : Sp} (h : JobP K I mp M T) (hg : (grs I mp M T)[i]? = some g) (hno : NoW K (tasksT I mp M T) s (frstA I mp M T i)) (hs : ¬ (g.rd = s.rd ∧ s.ph ∈ phasesT g.kd)) : NoW K (tasksT I mp M T) s (frstA I mp M T (i + 1)) := by
  intro j u hj hu hw
  have h1 : frstA I mp M T i = g.fi := by unfold frstA; have := (chn_at (grs_chn h).1 hg).1; omega
  have h2 : frstA I mp M T (i + 1) = g.fi + g.sz := take_next (grs_chn h).1 hg
  rcases Nat.lt_or_ge j g.fi with c | c
  · exact hno j u (by omega) hu hw
  · have hi : j - g.fi < g.sz := by omega
    have hf := flat_at (grs_chn h).1 hg hi
    rw [grs_tasks, show g.fi + (j - g.fi) = j by omega, hu] at hf
    obtain ⟨k1, k2⟩ := grp_task h hg hf.symm
    obtain ⟨m1, m2, _⟩ := mem_writes.1 hw
    rw [k2] at m1
    rw [k1] at m2
    exact hs ⟨m1, m2⟩
theorem no_step {K : Int} {l : List Tk} {s : Sp} {m : Nat} {u : Tk} (hno : NoW K l s m) (hu : l[m]? = some u) (hs : s ∉ writesT K u) : NoW K l s (m + 1) := fun j v hj hv => by
  rcases Nat.lt_or_ge j m with c | c
  · exact hno j v c hv
  · obtain rfl : j = m := by omega
    rw [hu] at hv
    injection hv with hv
    exact hv ▸ hs
set_option maxRecDepth 100000 in
set_option maxHeartbeats 16000000 in
theorem makes_any (r k b wk ph rd ad : Int) (hk0 : -9223372036854775808 ≤ k) (hk1 : k ≤ 9223372036854775807) (w : World) (hT : Bi.TzT w) :
    Calls Tryd.prog 22 #[.agg #[.int .i64 r, .int .i64 k, .int .i64 b, .int .i64 wk], .agg #[.int .i64 ph, .int .i64 rd, .int .i64 ad]] w fun e w' => e = .returned (.int .i64 (makesT k (tasksT (inN r k b wk) (mpN r k b wk) (mN r k b wk) (tN r k b wk)) ⟨ph, rd, ad⟩)) ∧ Below w.heap.size w w' := by
  have h := job_of (r := r) (b := b) (wk := wk) hk0 hk1
  have HK := Lib.hid (fun (i : Nat) (t : Tk) (ht : (tasksT (inN r k b wk) (mpN r k b wk) (mN r k b wk) (tN r k b wk))[i]? = some t) => task_right ht)
  have HJ := Lib.hid (fun (W : World) => jobOf_any r k b wk W)
  generalize inN r k b wk = I at *
  generalize mpN r k b wk = mp at *
  generalize mN r k b wk = M at *
  generalize tN r k b wk = T at *
  clear hk0 hk1
  have HGP := Lib.hid (fun (N bq : Nat) (X : World) (q : Blk X bq 62 #[.int .i64 k, .int .i64 (I : Int), .int .i64 (M : Int)]) (hT : Bi.TzT X) => groups_p N bq k I mp M T h X q hT)
  have HTK := Lib.hid (fun (i : Nat) (g : Gr) (hg : (grs I mp M T)[i]? = some g) (X : World) (hT : Bi.TzT X) => tasks_any k I mp M T i g h hg X hT)
  have HIX := Lib.hid (fun (i : Nat) (g : Gr) (hg : (grs I mp M T)[i]? = some g) => show frstA I mp M T i = g.fi ∧ frstA I mp M T (i + 1) = g.fi + g.sz from ⟨by unfold frstA; have := (chn_at (grs_chn h).1 hg).1; omega, take_next (grs_chn h).1 hg⟩)
  have HGE := Lib.hid (fun (i j : Nat) (g : Gr) (hg : (grs I mp M T)[i]? = some g) (hj : j ≤ g.sz) (hn : atG mp M g j = none) => atG_end h hg hj hn)
  have HGL := Lib.hid (fun (i j : Nat) (g : Gr) (y : Nat × Tk) (hg : (grs I mp M T)[i]? = some g) (hy : atG mp M g j = some y) => atG_lt h hg hy)
  have HGT := Lib.hid (fun (i j : Nat) (g : Gr) (y : Nat × Tk) (hg : (grs I mp M T)[i]? = some g) (hy : atG mp M g j = some y) => show y.2.kd = g.kd ∧ y.2.rd = g.rd by
    unfold atG at hy
    obtain ⟨t, ht, rfl⟩ := Option.map_eq_some_iff.1 hy
    exact grp_task h hg ht)
  have HFE := Lib.hid (fun (i : Nat) (hg : (grs I mp M T)[i]? = none) => frst_end hg)
  have HSG := Lib.hid (fun (i : Nat) (g : Gr) (hg : (grs I mp M T)[i]? = some g) (hno : NoW k (tasksT I mp M T) ⟨ph, rd, ad⟩ (frstA I mp M T i)) (hs : ¬ (g.rd = rd ∧ ph ∈ phasesT g.kd)) => skip_group h hg hno hs)
  have HKD := Lib.hid (fun (i : Nat) (g : Gr) (hg : (grs I mp M T)[i]? = some g) => (grs_says h hg).2.2.2)
  have HTBI := Lib.hid (fun (i : Nat) (t : Tk) (ht : (tasksT I mp M T)[i]? = some t) => tasks_bi h ht)
  have hlT := hT.lt
  clear h
  refine (callsIn_wide (n := 9)).1 ?_
  refine callsIn_of_wp_marks Tryd.func22 rfl trivial ?_ rfl
  simp only [Tryd.ntmps22, List.size_toArray, List.length_cons, List.length_nil, Nat.reduceAdd, Nat.reduceSub, Array.replicate_succ, Array.replicate_zero, List.push_toArray, List.append_toArray, List.nil_append, List.cons_append]
  refine wpIn_wide.2 ?_
  go_wp2_with (first
    | (refine wpList_box_blk (w := w) rfl 23 _ rfl _ rfl ?_; intro u1 qu1 gu1 zu1)
    | (refine wpList_box_blk (w := u1) rfl 42 _ rfl _ rfl ?_; intro u2 qu2 gu2 zu2))
  apply wp_scope_straight
  go_wp2_with (first
    | (refine Held.wpList_alloc_cell (w := u2) rfl 3 rfl (.int .i64 0) (by kernel_rfl) rfl ?_; intro u3 q3 g3 z3)
    | (refine Held.wpList_store_box (w := u3) rfl 3 _ _ rfl u2.heap.size rfl 3 _ (.int .i64 (-1)) rfl q3 (by kernel_rfl) rfl rfl ?_; intro u4 q4 g4; have q4 : Blk u4 u2.heap.size 3 #[.int .i64 (-1)] := q4; have b1 : Below w.heap.size w u1 := (Below.refl _ w).grown gu1 (Nat.le_refl _) (by simp); have b2 : Below u1.heap.size u1 u2 := (Below.refl _ u1).grown gu2 (Nat.le_refl _) (by simp); have b4 : Below u2.heap.size u2 u4 := ((Below.refl _ u2).grown g3 (Nat.le_refl _) (by simp)).grown g4 g3.size (fun r e => by cases e; exact Nat.le_refl _); have qp4 := (qu1.after b2).after b4)
    | (refine wpList_load_blk (w := u4) rfl 23 _ rfl (w.heap.size) 4 rfl 23 _ qp4 _ Tryd.underlying23 rfl (by kernel_rfl) rfl ?_))
  refine (HJ.out u4).mono ?_
  rintro e u5 ⟨rfl, b5⟩
  go_wp2_with (first
    | (refine wpList_alloc_blk (w := u5) rfl 62 rfl #[.int .i64 0, .int .i64 0, .int .i64 0] (by kernel_rfl) ?_; intro u6 qu6 gu6 zu6)
    | (refine wpList_store_blk (w := u6) rfl 62 _ _ rfl (u5.heap.size) 3 rfl 62 _ #[.int .i64 k, .int .i64 (I : Int), .int .i64 (M : Int)] rfl qu6 (by kernel_rfl) rfl rfl (by kernel_rfl) ?_; intro u7 qu7 gu7 zu7; have b7 : Below u5.heap.size u5 u7 := ((Below.refl _ u5).grown gu6 (Nat.le_refl _) (by simp)).grown gu7 gu6.size (fun r e => by cases e; exact Nat.le_refl _)))
  apply wp_label
  go_wp2_with (first
    | (refine wpList_load_blk (w := u7) rfl 62 _ rfl (u5.heap.size) 3 rfl 62 _ qu7 _ Tryd.underlying62 rfl (by kernel_rfl) rfl ?_))
  refine (groups_any k I M u7).mono ?_
  rintro e u8 ⟨bq, rfl, qq, hbq, b8⟩
  have l1 : w.heap.size < u1.heap.size := qu1.lt
  have l2 : u1.heap.size < u2.heap.size := qu2.lt
  have l4 : u2.heap.size < u4.heap.size := q4.lt
  have l45 := b5.size
  have l7 : u5.heap.size < u7.heap.size := qu7.lt
  have l78 := b8.size
  have lq : bq < u8.heap.size := qq.lt
  have b58 : Below u4.heap.size u4 u8 := b5.trans ((b7.mono b5.size).trans (b8.mono (by omega)))
  have bb8 : Below w.heap.size w u8 := b1.trans ((b2.mono (by omega)).trans ((b4.mono (by omega)).trans (b58.mono (by omega))))
  have qs8 := (qu2.after b4).after b58
  have qm8 := q4.after b58
  have qj8 := qu7.after b8
  have hT8 := hT.below bb8 hlT
  have hit := HGP.out (9 - 1) bq u8 qq hT8
  have hk0 : KeepsP (fun b => b < w.heap.size) w u8 := ⟨bb8.os, bb8.tape, bb8.output, bb8.size, fun r o hr ho => (bb8.block r hr).trans ho⟩
  generalize hbs : u1.heap.size = bs at *
  generalize hbm : u2.heap.size = bm at *
  generalize hbj : u5.heap.size = bj at *
  clear b1 b2 b4 b5 b7 b8 b58 bb8 q3 q4 qu2 qu6 qu7 qp4 gu1 gu2 g3 g4 gu6 gu7 zu1 zu2 z3 zu6 zu7 HGP HJ qq
  go_wp2_with fail
  refine (wpIn_wide (n := 9)).1 ?_
  refine wpIn_rangeFunc_p rfl (by omega) (gf := 54) (lb := #[.pointer (some ⟨bq, 0, none⟩)]) rfl trivial (enters_of Tryd.func54 (by kernel_rfl) rfl)
    hit (Below.refl _ _) (fun _ => rfl) (fun b hb => by rcases hb with rfl | rfl <;> omega)
    (Inn (fun _ _ _ => True) (fun b => (b = bs ∨ b = bm ∨ b = bj ∨ b = bq)) (fun b => b < w.heap.size) (fun i X => (Blk X bs 42 #[.int .i64 ph, .int .i64 rd, .int .i64 ad] ∧ Blk X bm 3 #[.int .i64 (-1)] ∧ Blk X bj 62 #[.int .i64 k, .int .i64 (I : Int), .int .i64 (M : Int)] ∧ Bi.TzT X ∧ KeepsP (fun b => b < w.heap.size) w X) ∧ NoW k (tasksT I mp M T) ⟨ph, rd, ad⟩ (frstA I mp M T i)) id) (fun c pv i X => c = .exit 0 ∧ Inn (fun _ _ _ => True) (fun b => (b = bs ∨ b = bm ∨ b = bj ∨ b = bq)) (fun b => b < w.heap.size) (fun _ X => Blk X bm 3 #[.int .i64 (makesT k (tasksT I mp M T) ⟨ph, rd, ad⟩)] ∧ KeepsP (fun b => b < w.heap.size) w X) id pv i X) ?hI ?hIx ?h0
    (fun pv i x a' X => ∃ bg, Inn (fun _ _ _ => True) (fun b => b = bg ∨ (b = bs ∨ b = bm ∨ b = bj ∨ b = bq)) (fun b => b < w.heap.size) (fun i X => ((Blk X bs 42 #[.int .i64 ph, .int .i64 rd, .int .i64 ad] ∧ Blk X bm 3 #[.int .i64 (-1)] ∧ Blk X bj 62 #[.int .i64 k, .int .i64 (I : Int), .int .i64 (M : Int)] ∧ Bi.TzT X ∧ KeepsP (fun b => b < w.heap.size) w X) ∧ NoW k (tasksT I mp M T) ⟨ph, rd, ad⟩ (frstA I mp M T i)) ∧ Blk X bg 68 #[.int .i64 x.kd, .int .i64 x.rd, .int .i64 (x.sz : Int), .int .i64 (x.fi : Int)]) id pv i X ∧ a' = { tmps := #[.agg #[.int .i64 r, .int .i64 k, .int .i64 b, .int .i64 wk], .agg #[.int .i64 ph, .int .i64 rd, .int .i64 ad], .pointer (some ⟨w.heap.size, 0, none⟩), .pointer (some ⟨bs, 0, none⟩), .int .i64 0, .pointer (some ⟨bm, 0, none⟩), .pointer (some ⟨bj, 0, none⟩), .pointer (some ⟨bg, 0, none⟩), undef, undef, .agg #[.int .i64 r, .int .i64 k, .int .i64 b, .int .i64 wk], .agg #[.int .i64 k, .int .i64 (I : Int), .int .i64 (M : Int)], .agg #[.int .i64 k, .int .i64 (I : Int), .int .i64 (M : Int)], .func (.func 54) #[] #[.pointer (some ⟨bq, 0, none⟩)], grV x, undef, undef, undef, undef, undef, undef, undef, undef, undef, undef, undef, undef, undef, undef, undef, undef, undef, undef, undef, undef, undef, undef, undef, undef, undef, undef, undef], defers := [] }) ?hIb ?assign ?body ?done ?stop
  case hI =>
    refine stay_inn stay_true ?_
    rintro i X X' ⟨⟨a1, a2, a4, a5, a6⟩, a7⟩ kp
    exact ⟨⟨kp_blk kp a1 (by simp), kp_blk kp a2 (by simp), kp_blk kp a4 (by simp), kp_tz kp a5 (.inr hlT), a6.trans (kp.less fun b hb => .inr hb)⟩, a7⟩
  case hIx =>
    refine fun c => stay_and stay_const (stay_inn stay_true ?_)
    rintro i X X' ⟨a1, a4⟩ kp
    exact ⟨kp_blk kp a1 (by simp), a4.trans (kp.less fun b hb => .inr hb)⟩
  case h0 =>
    refine inn_start (pvo := fun _ => True) trivial (fun _ _ => trivial) ?_ ⟨⟨qs8, qm8, qj8, hT8, hk0⟩, fun j u hj => by rw [show frstA I mp M T 0 = 0 by simp [frstA]] at hj; omega⟩
    intro b hb
    rcases hb with (rfl | rfl | rfl | rfl) | hb <;> omega
  case hIb =>
    rintro pv i x a' X X' b ⟨bg, h1, h2⟩ hb hg
    refine ⟨bg, (stay_inn stay_true ?_).put _ _ _ _ _ h1 hb hg, h2⟩
    rintro i X X' ⟨⟨⟨a1, a2, a4, a5, a6⟩, a7⟩, a8⟩ kp
    exact ⟨⟨⟨kp_blk kp a1 (by simp), kp_blk kp a2 (by simp), kp_blk kp a4 (by simp), kp_tz kp a5 (.inr hlT), a6.trans (kp.less fun b hb => .inr hb)⟩, a7⟩, kp_blk kp a8 (by simp)⟩
  case assign =>
    rintro l' pv i x X C hl' hI hat hC
    simp only [grV, List.zip_toArray, List.zip_cons_cons, List.zip_nil_right, List.foldl_toArray, List.foldl_cons, List.foldl_nil, List.setIfInBounds_toArray, List.set_cons_zero, List.set_cons_succ]
    gi_wp2_with (first
      | (refine Held.wpListIn_one (r := some l') rfl (by intro c e; cases e) ?_; refine wpList_alloc_blk (w := X) rfl 68 rfl #[.int .i64 0, .int .i64 0, .int .i64 0, .int .i64 0] (by kernel_rfl) ?_; intro X1 qX1 gX1 zX1; refine wpList_nil ⟨rfl, ?_⟩)
      | (refine Held.wpListIn_one (r := some l') rfl (by intro c e; cases e) ?_; refine wpList_store_blk (w := X1) rfl 68 _ _ rfl (X.heap.size) 4 rfl 68 _ #[.int .i64 x.kd, .int .i64 x.rd, .int .i64 (x.sz : Int), .int .i64 (x.fi : Int)] rfl qX1 (by kernel_rfl) rfl rfl (by kernel_rfl) ?_; intro X2 qX2 gX2 zX2; have bx : Below X.heap.size X X2 := ((Below.refl _ X).grown gX1 (Nat.le_refl _) (by simp)).grown gX2 gX1.size (fun r e => by cases e; exact Nat.le_refl _); refine wpList_nil ⟨rfl, ?_⟩))
    refine hC _ _ (KeepsP.of_below bx) ⟨X.heap.size, inn_more stay_true hI bx (Nat.le_refl _) qX2.lt ?_, rfl⟩
    rintro ⟨⟨a1, a2, a4, a5, a6⟩, a7⟩ kp
    exact ⟨⟨⟨kp_blk kp a1 (by simp), kp_blk kp a2 (by simp), kp_blk kp a4 (by simp), kp_tz kp a5 (.inr hlT), a6.trans (kp.less fun b hb => .inr hb)⟩, a7⟩, qX2⟩
  case body =>
    rintro l' pv i g a' X hl' ⟨lr, hlr⟩ ⟨bg, ⟨pvo, p1, -, p3, p4, p5, ⟨⟨qs, qm, qj, hT0, kw⟩, hno⟩, qg⟩, rfl⟩ hat
    obtain ⟨hi1, hi2⟩ := HIX.out i g hat
    have hkd := HKD.out i g hat
    have HNO := Lib.hid hno
    simp only [grV]
    clear hno
    have hnd : ∀ b, ((b = bs ∨ b = bm ∨ b = bj ∨ b = bq) ∨ b < w.heap.size) → ¬ pv b ∧ b < X.heap.size := fun b hb => p4 b (hb.elim (fun h => .inl (.inr h)) .inr)
    by_cases hA : g.rd = rd
    case neg =>
      have hdA := Lib.hid (show decide (g.rd ≠ rd) = true from decide_eq_true hA)
      have HN1 := Lib.hid (HSG.out i g hat HNO.out (fun h => hA h.1))
      clear hA HNO hi1 hi2
      gi_wp2_with fail
      refine Held.wpIn_region_heldR (r := some l') (S := fun W => Below X.heap.size X W) rfl (by kernel_rfl) (by kernel_rfl) (fun a w h => h) ?_
      change wpAnyH _ _ _ _ _ _ _ _ X.drew
      have c0_0 := (Below.refl X.heap.size X).drew
      refine Held.tk (v := .pointer (some ⟨bg, 1, none⟩)) 0 (some 15) rfl (Held.y_field (k := 1) (s := 0) rfl rfl Tryd.underlying68 rfl (by kernel_rfl) rfl) c0_0 ?_
      simp only [Act.put, Z1, Z2, Z3]
      refine Held.tk (v := .int .i64 g.rd) 1 (some 16) rfl (Held.y_load rfl rfl (by kernel_rfl) (fun W hW => (qg.after hW).cell rfl)) c0_0 ?_
      simp only [Act.put, Z1, Z2, Z3]
      refine Held.tk (v := .pointer (some ⟨bs, 1, none⟩)) 2 (some 17) rfl (Held.y_field (k := 1) (s := 0) rfl rfl Tryd.underlying42 rfl (by kernel_rfl) rfl) c0_0 ?_
      simp only [Act.put, Z1, Z2, Z3]
      refine Held.tk (v := .int .i64 rd) 3 (some 18) rfl (Held.y_load rfl rfl (by kernel_rfl) (fun W hW => (qs.after hW).cell rfl)) c0_0 ?_
      simp only [Act.put, Z1, Z2, Z3]
      refine Held.tk (v := .bool true) 4 (some 19) rfl (Held.y_neI rfl rfl rfl (hdA.out)) c0_0 ?_
      simp only [Act.put, Z1, Z2, Z3]
      refine Held.tk (v := .bool true) 5 (some 20) rfl (Held.y_move rfl rfl) c0_0 ?_
      simp only [Act.put, Z1, Z2, Z3]
      refine Held.skip 6 (some 21) rfl rfl (by kernel_rfl) (by kernel_rfl) (by kernel_rfl) (fun _ _ _ h => h) rfl c0_0 ?_
      simp only [Act.put, Z1, Z2, Z3]
      refine Held.skip 7 (some 22) rfl rfl (by kernel_rfl) (by kernel_rfl) (by kernel_rfl) (fun _ _ _ h => h) rfl c0_0 ?_
      simp only [Act.put, Z1, Z2, Z3]
      refine Held.skip 8 (some 23) rfl rfl (by kernel_rfl) (by kernel_rfl) (by kernel_rfl) (fun _ _ _ h => h) rfl c0_0 ?_
      simp only [Act.put, Z1, Z2, Z3]
      refine Held.skip 9 (some 24) rfl rfl (by kernel_rfl) (by kernel_rfl) (by kernel_rfl) (fun _ _ _ h => h) rfl c0_0 ?_
      simp only [Act.put, Z1, Z2, Z3]
      refine Held.skip 10 (some 25) rfl rfl (by kernel_rfl) (by kernel_rfl) (by kernel_rfl) (fun _ _ _ h => h) rfl c0_0 ?_
      simp only [Act.put, Z1, Z2, Z3]
      refine Held.skip 11 (some 26) rfl rfl (by kernel_rfl) (by kernel_rfl) (by kernel_rfl) (fun _ _ _ h => h) rfl c0_0 ?_
      simp only [Act.put, Z1, Z2, Z3]
      refine Held.skip 12 (some 27) rfl rfl (by kernel_rfl) (by kernel_rfl) (by kernel_rfl) (fun _ _ _ h => h) rfl c0_0 ?_
      simp only [Act.put, Z1, Z2, Z3]
      refine Held.tk (v := (.bool true)) 13 (some 28) rfl (Held.y_pick rfl rfl rfl) c0_0 ?_
      simp only [Act.put, Z1, Z2, Z3]
      refine wpAnyH_done (by kernel_rfl) ?_ _
      gi_wp2_with fail
      exact ⟨KeepsP.of_below c0_0, fun _ => True, fun _ _ => trivial, trivial, fun _ _ => trivial, fun b hb => ⟨(hnd b hb).1, Nat.lt_of_lt_of_le (hnd b hb).2 c0_0.size⟩, fun b hb => Nat.lt_of_lt_of_le (p5 b hb) c0_0.size, ⟨qs.after c0_0, qm.after c0_0, qj.after c0_0, hT0.below c0_0 hT0.lt, kw.trans (KeepsP.of_below c0_0)⟩, HN1.out⟩
    have hdA := Lib.hid (show decide (g.rd ≠ rd) = false from decide_eq_false (fun h => h hA))
    by_cases hB : ph ∈ phasesT g.kd
    case neg =>
      have hdB := Lib.hid (show decide (ph ∈ phasesT g.kd) = false from decide_eq_false hB)
      have HN1 := Lib.hid (HSG.out i g hat HNO.out (fun h => hB h.2))
      have hcon : ∀ (A : Option Addr) (n c : Nat) (W : World), Calls Tryd.prog 46 #[.slice A n c, .int .i64 ph] W (fun e w' => e = .returned (.bool (decide (ph ∈ phasesT g.kd))) ∧ Below W.heap.size W w') → Calls Tryd.prog 46 #[.slice A n c, .int .i64 ph] W (fun e w' => e = .returned (.bool false) ∧ Below W.heap.size W w') := fun A n c W h => hdB.out ▸ h
      clear hA hB HNO hi1 hi2
      gi_wp2_with fail
      refine Held.wpIn_region_heldR (r := some l') (S := fun W => Below X.heap.size X W) rfl (by kernel_rfl) (by kernel_rfl) (fun a w h => h) ?_
      change wpAnyH _ _ _ _ _ _ _ _ X.drew
      have c0_0 := (Below.refl X.heap.size X).drew
      refine Held.tk (v := .pointer (some ⟨bg, 1, none⟩)) 0 (some 15) rfl (Held.y_field (k := 1) (s := 0) rfl rfl Tryd.underlying68 rfl (by kernel_rfl) rfl) c0_0 ?_
      simp only [Act.put, Z1, Z2, Z3]
      refine Held.tk (v := .int .i64 g.rd) 1 (some 16) rfl (Held.y_load rfl rfl (by kernel_rfl) (fun W hW => (qg.after hW).cell rfl)) c0_0 ?_
      simp only [Act.put, Z1, Z2, Z3]
      refine Held.tk (v := .pointer (some ⟨bs, 1, none⟩)) 2 (some 17) rfl (Held.y_field (k := 1) (s := 0) rfl rfl Tryd.underlying42 rfl (by kernel_rfl) rfl) c0_0 ?_
      simp only [Act.put, Z1, Z2, Z3]
      refine Held.tk (v := .int .i64 rd) 3 (some 18) rfl (Held.y_load rfl rfl (by kernel_rfl) (fun W hW => (qs.after hW).cell rfl)) c0_0 ?_
      simp only [Act.put, Z1, Z2, Z3]
      refine Held.tk (v := .bool false) 4 (some 19) rfl (Held.y_neI rfl rfl rfl (hdA.out)) c0_0 ?_
      simp only [Act.put, Z1, Z2, Z3]
      refine Held.tk (v := .bool false) 5 (some 20) rfl (Held.y_move rfl rfl) c0_0 ?_
      simp only [Act.put, Z1, Z2, Z3]
      refine Held.tk (v := .pointer (some ⟨bg, 0, none⟩)) 6 (some 21) rfl (Held.y_field (k := 0) (s := 0) rfl rfl Tryd.underlying68 rfl (by kernel_rfl) rfl) c0_0 ?_
      simp only [Act.put, Z1, Z2, Z3]
      refine Held.tk (v := .int .i64 g.kd) 7 (some 22) rfl (Held.y_load rfl rfl (by kernel_rfl) (fun W hW => (qg.after hW).cell rfl)) c0_0 ?_
      simp only [Act.put, Z1, Z2, Z3]
      refine Held.tk (v := .pointer (some ⟨bs, 0, none⟩)) 9 (some 24) rfl (Held.y_field (k := 0) (s := 0) rfl rfl Tryd.underlying42 rfl (by kernel_rfl) rfl) c0_0 ?_
      simp only [Act.put, Z1, Z2, Z3]
      refine Held.tk (v := .int .i64 ph) 10 (some 25) rfl (Held.y_load rfl rfl (by kernel_rfl) (fun W hW => (qs.after hW).cell rfl)) c0_0 ?_
      simp only [Act.put, Z1, Z2, Z3]
      refine Held.one 8 (by kernel_rfl) ?_
      refine Held.op_call 8 (some 23) 47 #[.int .i64 g.kd] rfl rfl rfl rfl (enters_of Tryd.func47 (by kernel_rfl) rfl) (by simp [Act.eval])
        (phases_any g.kd hkd.1 hkd.2 _) ?_
      rintro e w1 ⟨Ap, np, cp, rfl, hnp, op, b1⟩
      have c0_1 := c0_0.trans (b1.mono c0_0.size)
      refine ⟨_, rfl, c0_1, ?_⟩
      simp only [Act.put, Z1, Z2, Z3]
      refine Held.one 11 (by kernel_rfl) ?_
      refine Held.op_call 11 (some 26) 46 #[.slice Ap np cp, .int .i64 ph] rfl rfl rfl rfl (enters_of Tryd.func46 (by kernel_rfl) rfl) (by simp [Act.eval])
        (hcon _ _ _ _ (contains_b _ Ap np cp _ ph _ (Mem.Own.ints op hnp.out) (by have := hnp.out; have := phases_length g.kd; omega))) ?_
      rintro e w2 ⟨rfl, b2⟩
      have c0_2 := c0_1.trans (b2.mono c0_1.size)
      refine ⟨_, rfl, c0_2, ?_⟩
      simp only [Act.put, Z1, Z2, Z3]
      refine Held.tk (v := .bool true) 12 (some 27) rfl (Held.y_not rfl rfl rfl) c0_2 ?_
      simp only [Act.put, Z1, Z2, Z3]
      refine Held.tk (v := .bool true) 13 (some 28) rfl (Held.y_pickF rfl rfl rfl) c0_2 ?_
      simp only [Act.put, Z1, Z2, Z3]
      refine wpAnyH_done (by kernel_rfl) ?_ _
      gi_wp2_with fail
      exact ⟨KeepsP.of_below c0_2, fun _ => True, fun _ _ => trivial, trivial, fun _ _ => trivial, fun b hb => ⟨(hnd b hb).1, Nat.lt_of_lt_of_le (hnd b hb).2 c0_2.size⟩, fun b hb => Nat.lt_of_lt_of_le (p5 b hb) c0_2.size, ⟨qs.after c0_2, qm.after c0_2, qj.after c0_2, hT0.below c0_2 hT0.lt, kw.trans (KeepsP.of_below c0_2)⟩, HN1.out⟩
    case pos =>
      have hdB := Lib.hid (show decide (ph ∈ phasesT g.kd) = true from decide_eq_true hB)
      have hcon : ∀ (A : Option Addr) (n c : Nat) (W : World), Calls Tryd.prog 46 #[.slice A n c, .int .i64 ph] W (fun e w' => e = .returned (.bool (decide (ph ∈ phasesT g.kd))) ∧ Below W.heap.size W w') → Calls Tryd.prog 46 #[.slice A n c, .int .i64 ph] W (fun e w' => e = .returned (.bool true) ∧ Below W.heap.size W w') := fun A n c W h => hdB.out ▸ h
      have HG := Lib.hid (show (∀ y : Nat × Tk, y.2.kd = g.kd ∧ y.2.rd = g.rd → (⟨ph, rd, ad⟩ ∈ writesT k y.2 ↔ ad ∈ addrsT k y.2)) by
        intro y hy
        rw [mem_writes]
        exact ⟨fun h => h.2.2, fun h => ⟨hy.2.trans hA, by rw [hy.1]; exact hB, h⟩⟩)
      have HNI := Lib.hid (show NoW k (tasksT I mp M T) ⟨ph, rd, ad⟩ (g.fi + 0) by rw [Nat.add_zero, ← hi1]; exact HNO.out)
      have HNE := Lib.hid (show frstA I mp M T (i + 1) = g.fi + g.sz from hi2)
      clear hA hB HNO hi1 hi2
      gi_wp2_with fail
      refine Held.wpIn_region_heldR (r := some l') (S := fun W => Below X.heap.size X W) rfl (by kernel_rfl) (by kernel_rfl) (fun a w h => h) ?_
      change wpAnyH _ _ _ _ _ _ _ _ X.drew
      have c0_0 := (Below.refl X.heap.size X).drew
      refine Held.tk (v := .pointer (some ⟨bg, 1, none⟩)) 0 (some 15) rfl (Held.y_field (k := 1) (s := 0) rfl rfl Tryd.underlying68 rfl (by kernel_rfl) rfl) c0_0 ?_
      simp only [Act.put, Z1, Z2, Z3]
      refine Held.tk (v := .int .i64 g.rd) 1 (some 16) rfl (Held.y_load rfl rfl (by kernel_rfl) (fun W hW => (qg.after hW).cell rfl)) c0_0 ?_
      simp only [Act.put, Z1, Z2, Z3]
      refine Held.tk (v := .pointer (some ⟨bs, 1, none⟩)) 2 (some 17) rfl (Held.y_field (k := 1) (s := 0) rfl rfl Tryd.underlying42 rfl (by kernel_rfl) rfl) c0_0 ?_
      simp only [Act.put, Z1, Z2, Z3]
      refine Held.tk (v := .int .i64 rd) 3 (some 18) rfl (Held.y_load rfl rfl (by kernel_rfl) (fun W hW => (qs.after hW).cell rfl)) c0_0 ?_
      simp only [Act.put, Z1, Z2, Z3]
      refine Held.tk (v := .bool false) 4 (some 19) rfl (Held.y_neI rfl rfl rfl (hdA.out)) c0_0 ?_
      simp only [Act.put, Z1, Z2, Z3]
      refine Held.tk (v := .bool false) 5 (some 20) rfl (Held.y_move rfl rfl) c0_0 ?_
      simp only [Act.put, Z1, Z2, Z3]
      refine Held.tk (v := .pointer (some ⟨bg, 0, none⟩)) 6 (some 21) rfl (Held.y_field (k := 0) (s := 0) rfl rfl Tryd.underlying68 rfl (by kernel_rfl) rfl) c0_0 ?_
      simp only [Act.put, Z1, Z2, Z3]
      refine Held.tk (v := .int .i64 g.kd) 7 (some 22) rfl (Held.y_load rfl rfl (by kernel_rfl) (fun W hW => (qg.after hW).cell rfl)) c0_0 ?_
      simp only [Act.put, Z1, Z2, Z3]
      refine Held.tk (v := .pointer (some ⟨bs, 0, none⟩)) 9 (some 24) rfl (Held.y_field (k := 0) (s := 0) rfl rfl Tryd.underlying42 rfl (by kernel_rfl) rfl) c0_0 ?_
      simp only [Act.put, Z1, Z2, Z3]
      refine Held.tk (v := .int .i64 ph) 10 (some 25) rfl (Held.y_load rfl rfl (by kernel_rfl) (fun W hW => (qs.after hW).cell rfl)) c0_0 ?_
      simp only [Act.put, Z1, Z2, Z3]
      refine Held.one 8 (by kernel_rfl) ?_
      refine Held.op_call 8 (some 23) 47 #[.int .i64 g.kd] rfl rfl rfl rfl (enters_of Tryd.func47 (by kernel_rfl) rfl) (by simp [Act.eval])
        (phases_any g.kd hkd.1 hkd.2 _) ?_
      rintro e w1 ⟨Ap, np, cp, rfl, hnp, op, b1⟩
      have c0_1 := c0_0.trans (b1.mono c0_0.size)
      refine ⟨_, rfl, c0_1, ?_⟩
      simp only [Act.put, Z1, Z2, Z3]
      refine Held.one 11 (by kernel_rfl) ?_
      refine Held.op_call 11 (some 26) 46 #[.slice Ap np cp, .int .i64 ph] rfl rfl rfl rfl (enters_of Tryd.func46 (by kernel_rfl) rfl) (by simp [Act.eval])
        (hcon _ _ _ _ (contains_b _ Ap np cp _ ph _ (Mem.Own.ints op hnp.out) (by have := hnp.out; have := phases_length g.kd; omega))) ?_
      rintro e w2 ⟨rfl, b2⟩
      have c0_2 := c0_1.trans (b2.mono c0_1.size)
      refine ⟨_, rfl, c0_2, ?_⟩
      simp only [Act.put, Z1, Z2, Z3]
      refine Held.tk (v := .bool false) 12 (some 27) rfl (Held.y_not rfl rfl rfl) c0_2 ?_
      simp only [Act.put, Z1, Z2, Z3]
      refine Held.tk (v := .bool false) 13 (some 28) rfl (Held.y_pickF rfl rfl rfl) c0_2 ?_
      simp only [Act.put, Z1, Z2, Z3]
      refine wpAnyH_done (by kernel_rfl) ?_ _
      have qs1 := qs.after c0_2
      have qm1 := qm.after c0_2
      have qj1 := qj.after c0_2
      have qg1 := qg.after c0_2
      have hT1 := hT0.below c0_2 hT0.lt
      have hlr1 : w2.heap[l']? = some (.loop lr) := (c0_2.block l' (Array.getElem?_eq_some_iff.1 hlr).1).trans hlr
      have hx1 := c0_2.size
      gi_wp2_with (first
        | (refine Held.wpListIn_one (r := some l') rfl (by intro c e; cases e) ?_; refine wpList_load_blk (w := w2) rfl 62 _ rfl (bj) 3 rfl 62 _ qj1 _ Tryd.underlying62 rfl (by kernel_rfl) rfl ?_; refine wpList_nil ⟨rfl, ?_⟩)
        | (refine Held.wpListIn_one (r := some l') rfl (by intro c e; cases e) ?_; refine wpList_load_blk (w := w2) rfl 68 _ rfl (bg) 4 rfl 68 _ qg1 _ Tryd.underlying68 rfl (by kernel_rfl) rfl ?_; refine wpList_nil ⟨rfl, ?_⟩))
      first | (refine ⟨trivial, fun h => (by cases h), ?_⟩; refine (callsIn_wide.2 (HTK.out i g hat w2 hT1)).mono ?_) | (refine ⟨trivial, ?_⟩; refine (callsIn_wide.2 (HTK.out i g hat w2 hT1)).mono ?_)
      rintro e X2 ⟨gf, lb, Nd, rfl, hent, hsq, hNd, bx2⟩
      have b2 : Below X.heap.size X X2 := c0_2.trans (bx2.mono hx1)
      have qs2 := qs.after b2
      have qm2 := qm.after b2
      have qj2 := qj.after b2
      have hT2 := hT0.below b2 hT0.lt
      have kw2 := kw.trans (KeepsP.of_below b2)
      have hl2 : X2.heap[l']? = some (.loop lr) := (b2.block l' (Array.getElem?_eq_some_iff.1 hlr).1).trans hlr
      have hx2 := bx2.size
      have hnds := (hnd bs (.inl (.inl rfl))).2
      have hndm := (hnd bm (.inl (.inr (.inl rfl)))).2
      have hndj := (hnd bj (.inl (.inr (.inr (.inl rfl))))).2
      have hndq := (hnd bq (.inl (.inr (.inr (.inr rfl))))).2
      have hwX := kw.size
      have kX2 : KeepsP (fun b => (b = bq ∨ b = 1) ∨ pv b) X X2 := KeepsP.of_below b2
      clear HTK p4 p3 qs qm qj hT0 qg b2 bx2 hlr kw hdA hdB hcon qs1 qm1 qj1 qg1 hT1 hlr1 op b1 c0_0 c0_1
      gi_wp2_with fail
      refine wpIn_rangeFunc_pN rfl hl2 (by omega) (gf := gf) (lb := lb) rfl trivial (hent)
        ((hsq _ (by omega)).inRound l') (Below.refl _ _) (fun _ => rfl) (fun b hb => by rcases hNd b hb with rfl | hb <;> omega)
        (Inn (fun _ _ _ => True) (fun b => (b = bs ∨ b = bm ∨ b = bj ∨ b = bq) ∨ pv b ∨ (X.heap.size ≤ b ∧ b < X2.heap.size)) (fun b => b < w.heap.size) (fun j Z => ((j ≤ g.sz ∧ NoW k (tasksT I mp M T) ⟨ph, rd, ad⟩ (g.fi + j)) ∧ (Blk Z bs 42 #[.int .i64 ph, .int .i64 rd, .int .i64 ad] ∧ Blk Z bm 3 #[.int .i64 (-1)] ∧ Blk Z bj 62 #[.int .i64 k, .int .i64 (I : Int), .int .i64 (M : Int)] ∧ Bi.TzT Z ∧ KeepsP (fun b => b < w.heap.size) w Z)) ∧ KeepsP (fun b => (b = bq ∨ b = 1) ∨ pv b) X Z) id) (fun c pv2 j Z => c = .exit 0 ∧ Inn (fun _ _ _ => True) (fun b => (b = bs ∨ b = bm ∨ b = bj ∨ b = bq) ∨ pv b ∨ (X.heap.size ≤ b ∧ b < X2.heap.size)) (fun b => b < w.heap.size) (fun _ Z => (Blk Z bm 3 #[.int .i64 (makesT k (tasksT I mp M T) ⟨ph, rd, ad⟩)] ∧ KeepsP (fun b => b < w.heap.size) w Z) ∧ KeepsP (fun b => (b = bq ∨ b = 1) ∨ pv b) X Z) id pv2 j Z) ?iI ?iIx ?i0
        (fun pv2 j y a' Z => ∃ bu, Inn (fun _ _ _ => True) (fun b => b = bu ∨ ((b = bs ∨ b = bm ∨ b = bj ∨ b = bq) ∨ pv b ∨ (X.heap.size ≤ b ∧ b < X2.heap.size))) (fun b => b < w.heap.size) (fun j Z => (((j ≤ g.sz ∧ NoW k (tasksT I mp M T) ⟨ph, rd, ad⟩ (g.fi + j)) ∧ (Blk Z bs 42 #[.int .i64 ph, .int .i64 rd, .int .i64 ad] ∧ Blk Z bm 3 #[.int .i64 (-1)] ∧ Blk Z bj 62 #[.int .i64 k, .int .i64 (I : Int), .int .i64 (M : Int)] ∧ Bi.TzT Z ∧ KeepsP (fun b => b < w.heap.size) w Z)) ∧ KeepsP (fun b => (b = bq ∨ b = 1) ∨ pv b) X Z) ∧ Blk Z bu 34 #[.int .i64 y.2.kd, .int .i64 y.2.rd, .int .i64 y.2.a, .int .i64 y.2.b, .bool y.2.up]) id pv2 j Z ∧ a' = { tmps := #[.agg #[.int .i64 r, .int .i64 k, .int .i64 b, .int .i64 wk], .agg #[.int .i64 ph, .int .i64 rd, .int .i64 ad], .pointer (some ⟨w.heap.size, 0, none⟩), .pointer (some ⟨bs, 0, none⟩), .int .i64 0, .pointer (some ⟨bm, 0, none⟩), .pointer (some ⟨bj, 0, none⟩), .pointer (some ⟨bg, 0, none⟩), .int .i64 (y.1 : Int), .pointer (some ⟨bu, 0, none⟩), .agg #[.int .i64 r, .int .i64 k, .int .i64 b, .int .i64 wk], .agg #[.int .i64 k, .int .i64 (I : Int), .int .i64 (M : Int)], .agg #[.int .i64 k, .int .i64 (I : Int), .int .i64 (M : Int)], .func (.func 54) #[] #[.pointer (some ⟨bq, 0, none⟩)], .agg #[.int .i64 g.kd, .int .i64 g.rd, .int .i64 (g.sz : Int), .int .i64 (g.fi : Int)], .pointer (some ⟨bg, 1, none⟩), .int .i64 g.rd, .pointer (some ⟨bs, 1, none⟩), .int .i64 rd, .bool false, .bool false, .pointer (some ⟨bg, 0, none⟩), .int .i64 g.kd, .slice Ap np cp, .pointer (some ⟨bs, 0, none⟩), .int .i64 ph, .bool true, .bool false, .bool false, .agg #[.int .i64 k, .int .i64 (I : Int), .int .i64 (M : Int)], .agg #[.int .i64 g.kd, .int .i64 g.rd, .int .i64 (g.sz : Int), .int .i64 (g.fi : Int)], .func (.func gf) #[] lb, .int .i64 (y.1 : Int), tkV y.2, undef, undef, undef, undef, undef, undef, undef, undef], defers := [] }) ?iIb ?iassign ?ibody ?idone ?istop
      case iI =>
        refine stay_inn stay_true ?_
        rintro j Z Z' ⟨⟨a0, a1, a2, a4, a5, a6⟩, a7⟩ kp
        exact ⟨⟨a0, kp_blk kp a1 (by simp), kp_blk kp a2 (by simp), kp_blk kp a4 (by simp), kp_tz kp a5 (.inr hlT), a6.trans (kp.less fun b hb => .inr hb)⟩, a7.trans (kp.less (fun b hb => hb.elim (fun hb => hb.elim (fun e => .inl (.inl (.inr (.inr (.inr e))))) (fun e => .inr (e ▸ hlT))) (fun hb => .inl (.inr (.inl hb)))))⟩
      case iIx =>
        refine fun c => stay_and stay_const (stay_inn stay_true ?_)
        rintro j Z Z' ⟨⟨a1, a4⟩, a7⟩ kp
        exact ⟨⟨kp_blk kp a1 (by simp), a4.trans (kp.less fun b hb => .inr hb)⟩, a7.trans (kp.less (fun b hb => hb.elim (fun hb => hb.elim (fun e => .inl (.inl (.inr (.inr (.inr e))))) (fun e => .inr (e ▸ hlT))) (fun hb => .inl (.inr (.inl hb)))))⟩
      case i0 =>
        refine inn_start (pvo := fun _ => True) trivial (fun _ _ => trivial) ?_ ⟨⟨⟨Nat.zero_le _, HNI.out⟩, qs2, qm2, qj2, hT2, kw2⟩, kX2⟩
        intro b hb
        rcases hb with ((rfl | rfl | rfl | rfl) | hb | hb) | hb
        all_goals first | omega | (have := p5 b hb; omega)
      case iIb =>
        rintro pv2 j y a' Z Z' b ⟨bu, h1, h2⟩ hb hg
        refine ⟨bu, (stay_inn stay_true ?_).put _ _ _ _ _ h1 hb hg, h2⟩
        rintro j Z Z' ⟨⟨⟨a0, a1, a2, a4, a5, a6⟩, a7⟩, a8⟩ kp
        exact ⟨⟨⟨a0, kp_blk kp a1 (by simp), kp_blk kp a2 (by simp), kp_blk kp a4 (by simp), kp_tz kp a5 (.inr hlT), a6.trans (kp.less fun b hb => .inr hb)⟩, a7.trans (kp.less (fun b hb => hb.elim (fun hb => hb.elim (fun e => .inl (.inr (.inl (.inr (.inr (.inr e)))))) (fun e => .inr (e ▸ hlT))) (fun hb => .inl (.inr (.inr (.inl hb))))))⟩, kp_blk kp a8 (by simp)⟩
      case iassign =>
        rintro l2 pv2 j y Z C hl2' hI hat2 hC
        simp only [encT, tkV, List.zip_toArray, List.zip_cons_cons, List.zip_nil_right, List.foldl_toArray, List.foldl_cons, List.foldl_nil, List.setIfInBounds_toArray, List.set_cons_zero, List.set_cons_succ]
        gi_wp2_with (first
          | (refine Held.wpListIn_one (r := some l2) rfl (by intro c e; cases e) ?_; refine wpList_alloc_blk (w := Z) rfl 34 rfl #[.int .i64 0, .int .i64 0, .int .i64 0, .int .i64 0, .bool false] (by kernel_rfl) ?_; intro Z1 qZ1 gZ1 zZ1; refine wpList_nil ⟨rfl, ?_⟩)
          | (refine Held.wpListIn_one (r := some l2) rfl (by intro c e; cases e) ?_; refine wpList_store_blk (w := Z1) rfl 34 _ _ rfl (Z.heap.size) 5 rfl 34 _ #[.int .i64 y.2.kd, .int .i64 y.2.rd, .int .i64 y.2.a, .int .i64 y.2.b, .bool y.2.up] rfl qZ1 (by kernel_rfl) rfl rfl (by kernel_rfl) ?_; intro Z2 qZ2 gZ2 zZ2; have bx : Below Z.heap.size Z Z2 := ((Below.refl _ Z).grown gZ1 (Nat.le_refl _) (by simp)).grown gZ2 gZ1.size (fun r e => by cases e; exact Nat.le_refl _); refine wpList_nil ⟨rfl, ?_⟩))
        refine hC _ _ (KeepsP.of_below bx) ⟨Z.heap.size, inn_more stay_true hI bx (Nat.le_refl _) qZ2.lt ?_, rfl⟩
        rintro ⟨⟨a0, a1, a2, a4, a5, a6⟩, a7⟩ kp
        exact ⟨⟨⟨a0, kp_blk kp a1 (by simp), kp_blk kp a2 (by simp), kp_blk kp a4 (by simp), kp_tz kp a5 (.inr hlT), a6.trans (kp.less fun b hb => .inr hb)⟩, a7.trans (kp.less (fun b hb => hb.elim (fun hb => hb.elim (fun e => .inl (.inl (.inr (.inr (.inr e))))) (fun e => .inr (e ▸ hlT))) (fun hb => .inl (.inr (.inl hb)))))⟩, qZ2⟩
      case ibody =>
        rintro l2 pv2 j y a' Z hl2' - ⟨bu, ⟨pvi, i1, -, i3, i4, i5, ⟨⟨⟨i6, i7⟩, zs, zm, zj, zT, zw⟩, zX⟩, zu⟩, rfl⟩ hat2
        obtain ⟨hjs, hy1, hy2⟩ := HGL.out i j g y hat hat2
        have HTB := Lib.hid (HTBI.out _ _ hy2)
        have HKK := Lib.hid (show y.2.kd = 1 → 0 ≤ k ∧ k ≤ 4 from fun _ => by have := HK.out _ _ hy2; omega)
        have hmw := HG.out y (HGT.out i j g y hat hat2)
        have j4 : ∀ b, (((b = bs ∨ b = bm ∨ b = bj ∨ b = bq) ∨ pv b ∨ (X.heap.size ≤ b ∧ b < X2.heap.size)) ∨ b < w.heap.size) → ¬ pv2 b ∧ b < Z.heap.size := fun b hb => i4 b (hb.elim (fun h => .inl (.inr h)) .inr)
        have hzz := zX.size
        by_cases hE : ad ∈ addrsT k y.2
        · have hdE := Lib.hid (show decide (ad ∈ addrsT k y.2) = true from decide_eq_true hE)
          have hcon : ∀ (A : Option Addr) (n c : Nat) (W : World), Calls Tryd.prog 46 #[.slice A n c, .int .i64 ad] W (fun e w' => e = .returned (.bool (decide (ad ∈ addrsT k y.2))) ∧ Below W.heap.size W w') → Calls Tryd.prog 46 #[.slice A n c, .int .i64 ad] W (fun e w' => e = .returned (.bool true) ∧ Below W.heap.size W w') := fun A n c W h => hdE.out ▸ h
          have HMK := Lib.hid (show makesT k (tasksT I mp M T) ⟨ph, rd, ad⟩ = (y.1 : Int) by
            rw [hy1]
            exact makesT_some hy2 (hmw.2 hE) i7)
          clear hE hy1 hy2 i7 i6 hjs hmw hdE
          gi_wp2_with fail
          refine Held.wpIn_region_heldR (r := some l2) (S := fun W => Below Z.heap.size Z W) rfl (by kernel_rfl) (by kernel_rfl) (fun a w h => h) ?_
          change wpAnyH _ _ _ _ _ _ _ _ Z.drew
          have c0_0 := (Below.refl Z.heap.size Z).drew
          refine Held.tk (v := .agg #[.int .i64 k, .int .i64 (I : Int), .int .i64 (M : Int)]) 0 (some 34) rfl (Held.y_load_blk (n := 3) rfl rfl Tryd.underlying62 rfl (by kernel_rfl) rfl (fun W hW => zj.after hW)) c0_0 ?_
          simp only [Act.put, Z1, Z2, Z3]
          refine Held.tk (v := .agg #[.int .i64 y.2.kd, .int .i64 y.2.rd, .int .i64 y.2.a, .int .i64 y.2.b, .bool y.2.up]) 1 (some 35) rfl (Held.y_load_blk (n := 5) rfl rfl Tryd.underlying34 rfl (by kernel_rfl) rfl (fun W hW => zu.after hW)) c0_0 ?_
          simp only [Act.put, Z1, Z2, Z3]
          refine Held.tk (v := .pointer (some ⟨bs, 2, none⟩)) 3 (some 37) rfl (Held.y_field (k := 2) (s := 0) rfl rfl Tryd.underlying42 rfl (by kernel_rfl) rfl) c0_0 ?_
          simp only [Act.put, Z1, Z2, Z3]
          refine Held.tk (v := .int .i64 ad) 4 (some 38) rfl (Held.y_load rfl rfl (by kernel_rfl) (fun W hW => (zs.after hW).cell rfl)) c0_0 ?_
          simp only [Act.put, Z1, Z2, Z3]
          refine Held.one 2 (by kernel_rfl) ?_
          refine Held.op_call 2 (some 36) 48 #[.agg #[.int .i64 k, .int .i64 (I : Int), .int .i64 (M : Int)], .agg #[.int .i64 y.2.kd, .int .i64 y.2.rd, .int .i64 y.2.a, .int .i64 y.2.b, .bool y.2.up]] rfl rfl rfl rfl (enters_of Tryd.func48 (by kernel_rfl) rfl) (by simp [Act.eval])
            (addresses_any k I M y.2.kd y.2.rd y.2.a y.2.b y.2.up HTB.out HKK.out _) ?_
          rintro e w1 ⟨Aa, na, ca, rfl, hna, oa, b1⟩
          have c0_1 := c0_0.trans (b1.mono c0_0.size)
          refine ⟨_, rfl, c0_1, ?_⟩
          simp only [Act.put, Z1, Z2, Z3]
          refine Held.one 5 (by kernel_rfl) ?_
          refine Held.op_call 5 (some 39) 46 #[.slice Aa na ca, .int .i64 ad] rfl rfl rfl rfl (enters_of Tryd.func46 (by kernel_rfl) rfl) (by simp [Act.eval])
            (hcon _ _ _ _ (contains_b _ Aa na ca _ ad _ (Mem.Own.ints oa hna.out) (by have h1 := hna.out; have h2 : (addrsT k ⟨y.2.kd, y.2.rd, y.2.a, y.2.b, y.2.up⟩).length ≤ 4 := addrs_length (t := y.2) HKK.out; omega))) ?_
          rintro e w2 ⟨rfl, b2⟩
          have c0_2 := c0_1.trans (b2.mono c0_1.size)
          refine ⟨_, rfl, c0_2, ?_⟩
          simp only [Act.put, Z1, Z2, Z3]
          refine wpAnyH_done (by kernel_rfl) ?_ _
          have zm2 := zm.after c0_2
          gi_wp2_with (first
            | (refine Held.wpListIn_one (r := some l2) rfl (by intro c e; cases e) ?_; refine Held.wpList_store_box (w := w2) rfl 3 _ _ rfl bm rfl 3 _ (.int .i64 (y.1 : Int)) rfl zm2 (by kernel_rfl) rfl rfl ?_; intro Z2 qb2 gb2; have qb2 : Blk Z2 bm 3 #[.int .i64 (y.1 : Int)] := qb2; refine wpList_nil ⟨rfl, ?_⟩))
          have gg : ∀ S : Nat → Prop, ¬ S bm → KeepsP S Z Z2 := fun S h1 => (KeepsP.of_below c0_2).trans (KeepsP.of_grown gb2 (fun r e hr => by injection e with e; subst e; exact h1 hr))
          have nt : ¬ (Nd bm ∨ pv2 bm) := fun h => h.elim (fun h => by have := hNd bm h; omega) (fun h => (j4 bm (.inl (.inl (.inr (.inl rfl))))).1 h)
          have nx : ¬ ((bm = bq ∨ bm = 1) ∨ pv bm) := fun h => h.elim (fun h => by rcases h with h | h <;> omega) (fun h => (hnd bm (.inl (.inr (.inl rfl)))).1 h)
          have hz3 := Nat.le_trans c0_2.size gb2.size
          exact ⟨gg _ nt, rfl, fun _ => True, fun _ _ => trivial, trivial, fun _ _ => trivial, fun b hb => ⟨(j4 b hb).1, by have := (j4 b hb).2; omega⟩, fun b hb => by have := i5 b hb; omega, ⟨by rw [HMK.out]; exact qb2, zw.trans (gg _ (by omega))⟩, zX.trans (gg _ nx)⟩
        · have hdE := Lib.hid (show decide (ad ∈ addrsT k y.2) = false from decide_eq_false hE)
          have hcon : ∀ (A : Option Addr) (n c : Nat) (W : World), Calls Tryd.prog 46 #[.slice A n c, .int .i64 ad] W (fun e w' => e = .returned (.bool (decide (ad ∈ addrsT k y.2))) ∧ Below W.heap.size W w') → Calls Tryd.prog 46 #[.slice A n c, .int .i64 ad] W (fun e w' => e = .returned (.bool false) ∧ Below W.heap.size W w') := fun A n c W h => hdE.out ▸ h
          have HJ1 := Lib.hid (show j + 1 ≤ g.sz ∧ NoW k (tasksT I mp M T) ⟨ph, rd, ad⟩ (g.fi + (j + 1)) from ⟨hjs, no_step i7 hy2 (fun h => hE (hmw.1 h))⟩)
          clear hE hy1 hy2 i7 i6 hjs hmw hdE
          gi_wp2_with fail
          refine Held.wpIn_region_heldR (r := some l2) (S := fun W => Below Z.heap.size Z W) rfl (by kernel_rfl) (by kernel_rfl) (fun a w h => h) ?_
          change wpAnyH _ _ _ _ _ _ _ _ Z.drew
          have c0_0 := (Below.refl Z.heap.size Z).drew
          refine Held.tk (v := .agg #[.int .i64 k, .int .i64 (I : Int), .int .i64 (M : Int)]) 0 (some 34) rfl (Held.y_load_blk (n := 3) rfl rfl Tryd.underlying62 rfl (by kernel_rfl) rfl (fun W hW => zj.after hW)) c0_0 ?_
          simp only [Act.put, Z1, Z2, Z3]
          refine Held.tk (v := .agg #[.int .i64 y.2.kd, .int .i64 y.2.rd, .int .i64 y.2.a, .int .i64 y.2.b, .bool y.2.up]) 1 (some 35) rfl (Held.y_load_blk (n := 5) rfl rfl Tryd.underlying34 rfl (by kernel_rfl) rfl (fun W hW => zu.after hW)) c0_0 ?_
          simp only [Act.put, Z1, Z2, Z3]
          refine Held.tk (v := .pointer (some ⟨bs, 2, none⟩)) 3 (some 37) rfl (Held.y_field (k := 2) (s := 0) rfl rfl Tryd.underlying42 rfl (by kernel_rfl) rfl) c0_0 ?_
          simp only [Act.put, Z1, Z2, Z3]
          refine Held.tk (v := .int .i64 ad) 4 (some 38) rfl (Held.y_load rfl rfl (by kernel_rfl) (fun W hW => (zs.after hW).cell rfl)) c0_0 ?_
          simp only [Act.put, Z1, Z2, Z3]
          refine Held.one 2 (by kernel_rfl) ?_
          refine Held.op_call 2 (some 36) 48 #[.agg #[.int .i64 k, .int .i64 (I : Int), .int .i64 (M : Int)], .agg #[.int .i64 y.2.kd, .int .i64 y.2.rd, .int .i64 y.2.a, .int .i64 y.2.b, .bool y.2.up]] rfl rfl rfl rfl (enters_of Tryd.func48 (by kernel_rfl) rfl) (by simp [Act.eval])
            (addresses_any k I M y.2.kd y.2.rd y.2.a y.2.b y.2.up HTB.out HKK.out _) ?_
          rintro e w1 ⟨Aa, na, ca, rfl, hna, oa, b1⟩
          have c0_1 := c0_0.trans (b1.mono c0_0.size)
          refine ⟨_, rfl, c0_1, ?_⟩
          simp only [Act.put, Z1, Z2, Z3]
          refine Held.one 5 (by kernel_rfl) ?_
          refine Held.op_call 5 (some 39) 46 #[.slice Aa na ca, .int .i64 ad] rfl rfl rfl rfl (enters_of Tryd.func46 (by kernel_rfl) rfl) (by simp [Act.eval])
            (hcon _ _ _ _ (contains_b _ Aa na ca _ ad _ (Mem.Own.ints oa hna.out) (by have h1 := hna.out; have h2 : (addrsT k ⟨y.2.kd, y.2.rd, y.2.a, y.2.b, y.2.up⟩).length ≤ 4 := addrs_length (t := y.2) HKK.out; omega))) ?_
          rintro e w2 ⟨rfl, b2⟩
          have c0_2 := c0_1.trans (b2.mono c0_1.size)
          refine ⟨_, rfl, c0_2, ?_⟩
          simp only [Act.put, Z1, Z2, Z3]
          refine wpAnyH_done (by kernel_rfl) ?_ _
          gi_wp2_with fail
          exact ⟨KeepsP.of_below c0_2, fun _ => True, fun _ _ => trivial, trivial, fun _ _ => trivial, fun b hb => ⟨(j4 b hb).1, Nat.lt_of_lt_of_le (j4 b hb).2 c0_2.size⟩, fun b hb => Nat.lt_of_lt_of_le (i5 b hb) c0_2.size, ⟨HJ1.out, zs.after c0_2, zm.after c0_2, zj.after c0_2, zT.below c0_2 zT.lt, zw.trans (KeepsP.of_below c0_2)⟩, zX.trans (KeepsP.of_below c0_2)⟩
      case idone =>
        rintro pv2 j Z hat2 ⟨pvi, i1, -, i3, i4, i5, ⟨⟨i6, i7⟩, zs, zm, zj, zT, zw⟩, a7⟩
        obtain rfl := HGE.out i j g hat i6 hat2
        have hz := a7.size
        have HI7 := Lib.hid i7
        clear i7
        gi_wp2_with fail
        exact ⟨a7, fun _ => True, fun _ _ => trivial, trivial, fun _ _ => trivial, fun b hb => ⟨(hnd b hb).1, by have := (hnd b hb).2; omega⟩, fun b hb => by have := p5 b hb; omega, ⟨zs, zm, zj, zT, zw⟩, by show NoW k (tasksT I mp M T) ⟨ph, rd, ad⟩ (frstA I mp M T (i + 1)); rw [HNE.out]; exact HI7.out⟩
      case istop =>
        rintro c pv2 j Z ⟨rfl, pvi, i1, -, i3, i4, i5, ⟨a1, a4⟩, a7⟩
        have hz := a7.size
        gi_wp2_with fail
        exact ⟨a7, rfl, fun _ => True, fun _ _ => trivial, trivial, fun _ _ => trivial, fun b hb => ⟨(hnd b hb).1, by have := (hnd b hb).2; omega⟩, fun b hb => by have := p5 b hb; omega, a1, a4⟩
  case stop =>
    rintro D cc pv i X ⟨rfl, pvo, p1, -, p3, p4, p5, a1, a4⟩ hD hDh
    have hDw : w.heap.size ≤ D := Nat.le_of_not_lt fun h => (p4 D (.inr h)).1 hD
    have cc := a1.cell (i := 0) rfl
    refine wpIn_exit ?_
    go_wp2_with fail
    refine ⟨by simp, .inl ⟨_, _, rfl, run_takeDeferred hDh, ?_⟩⟩
    exact ⟨_, results_tmp rfl _ _ _, rfl, (a4.below (Nat.le_refl _) (fun _ h => h)).grown (grownBy_putObj' X D _) a4.size (fun r e => by injection e with e; omega)⟩
  case done =>
    rintro D pv i X hat ⟨pvo, p1, -, p3, p4, p5, ⟨qs, qm, qj, hT0, kw⟩, hno⟩ hD hDh
    have hDw : w.heap.size ≤ D := Nat.le_of_not_lt fun h => (p4 D (.inr h)).1 hD
    rw [HFE.out i hat] at hno
    have HMK := Lib.hid (show makesT k (tasksT I mp M T) ⟨ph, rd, ad⟩ = -1 from makesT_none (fun j u hu => hno j u (List.getElem?_eq_some_iff.1 hu).1 hu))
    have cc := qm.cell (i := 0) rfl
    clear hno
    go_wp2_with fail
    refine ⟨by simp, .inl ⟨_, _, rfl, run_takeDeferred hDh, ?_⟩⟩
    exact ⟨_, results_tmp rfl _ _ _, (by rw [HMK.out]; rfl), (kw.below (Nat.le_refl _) (fun _ h => h)).grown (grownBy_putObj' X D _) kw.size (fun r e => by injection e with e; omega)⟩
end Go.Proofs.YtipmfficjomcoaaDoor.Sh
namespace Go.Proofs.YtipmfficjomcoaaDoor.Vm
open Go.RowKit Go.ChangeShapes Go.WideShapes Mem Rc Sl
def kB : St Bool := ⟨1, fun b => [.bool b], fun _ => True, false, fun _ => rfl, fun _ u hu => by rw [List.mem_singleton.1 hu]; rfl, by omega⟩
section
variable {H : Type} {enc : TypeId × Value → H} {w : World} {base : Nat} {held : Bool}
theorem cells_some {a : Addr} {cs : List Value} {n : Nat} (h : w.cells? base a n = some cs) : cs.length = n ∧ ∀ j, j < n → w.cell? (a.add j) = cs[j]? := by
  obtain ⟨h1, h2, h3⟩ := World.cells?_some h
  exact ⟨h2, h3⟩
theorem open_lst {α : Type} {k : St α} {t e : TypeId} (ht : Tryd.prog.underlying t = some (.slice e)) (hc : Tryd.prog.cellsOf e = k.s)
    (one : ∀ (n : Nat) (cs : List Value) (x : DataW H × List MemPlace), DataW.trod enc Tryd.prog w base (fun _ => true) held n e cs = some x → ∃ r : α, cs = k.cells r ∧ k.wf r)
    {fuel : Nat} {cs : List Value} {x : DataW H × List MemPlace} (hf : DataW.trod enc Tryd.prog w base (fun _ => true) held fuel t cs = some x) :
    ∃ (A : Option Addr) (m c : Nat) (xs : List α), cs = [.slice A m c] ∧ Lst k w w.heap.size A m xs ∧ m ≤ c ∧ c ≤ maxLen := by
  rcases DataW.trod_slice ht hf with ⟨hcs, _⟩ | ⟨a, len, cap, elems, rest, n, _, hcs, _, hb, hl, hm, hlen, hel, _, _⟩
  · exact ⟨none, 0, 0, [], hcs, Lst.nil _ _ _ _, Nat.le_refl _, by simp [maxLen]⟩
  · have each : ∀ i, i < len → ∃ r : α, k.wf r ∧ ∀ j, j < k.s → w.cell? ((a.add (i * k.s)).add j) = (k.cells r)[j]? := fun i hi => by
      have hi' : i < elems.length := by rw [hlen]; exact hi
      have e := hel i hi
      rw [hc, List.getElem?_eq_getElem hi', Option.bind_eq_some_iff] at e
      obtain ⟨cs, hc, ht⟩ := e
      obtain ⟨r, rfl, hw⟩ := one _ _ _ ht
      exact ⟨r, hw, (cells_some hc).2⟩
    have hch : ∃ F : Nat → α, ∀ i, i < len → k.wf (F i) ∧ ∀ j, j < k.s → w.cell? ((a.add (i * k.s)).add j) = (k.cells (F i))[j]? :=
      ⟨fun i => if h : i < len then Classical.choose (each i h) else k.d, fun i hi => by
        have := Classical.choose_spec (each i hi)
        simp only [hi, dif_pos]
        exact this⟩
    obtain ⟨F, hF⟩ := hch
    refine ⟨some a, len, cap, (List.range len).map F, hcs, ⟨by simp, fun r hr => ?_, fun h0 => ?_⟩, hl, hm⟩
    · obtain ⟨i, hi, rfl⟩ := List.mem_map.1 hr
      exact (hF i (List.mem_range.1 hi)).1
    · have h00 := (hF 0 h0).2 0 k.pos
      have hk0 : 0 < (k.cells (F 0)).length := by rw [k.len]; exact k.pos
      rw [List.getElem?_eq_getElem hk0, Nat.zero_mul] at h00
      obtain ⟨u0, h00⟩ : ∃ u, w.cell? a = some u := ⟨_, by simpa [Addr.add] using h00⟩
      obtain ⟨b, off, spot⟩ := a
      have hspot : spot = none := by simpa [Addr.add] using World.cell?_spot h00
      subst hspot
      have hlt : b < w.heap.size := by simpa [Addr.add] using World.block_lt_of_cell? w _ h00
      have ea : ∀ o j : Nat, (Addr.mk b o none).add j = ⟨b, o + j, none⟩ := fun o j => by unfold Addr.add; split <;> simp_all
      refine ⟨b, off, rfl, hlt, fun q v hv => ?_⟩
      have hq := (List.getElem?_eq_some_iff.1 hv).1
      rw [flat_length] at hq
      simp only [List.length_map, List.length_range] at hq
      have hq1 : q / k.s < len := Nat.div_lt_of_lt_mul (by rw [Nat.mul_comm]; exact hq)
      have hq2 := Nat.mod_lt q k.pos
      have hq3 : q / k.s * k.s + q % k.s = q := by rw [Nat.mul_comm]; exact Nat.div_add_mod q k.s
      have hv' := hv
      have h4 := flat_at (k := k) ((List.range len).map F) (q / k.s) (q % k.s) hq2 (by simpa using hq1)
      rw [hq3] at h4
      rw [h4] at hv'
      have hg : ((List.range len).map F).getD (q / k.s) k.d = F (q / k.s) := by
        rw [List.getD_eq_getElem?_getD, List.getElem?_map, List.getElem?_range hq1]
        rfl
      rw [hg, ← (hF (q / k.s) hq1).2 (q % k.s) hq2, ea, ea, Nat.add_assoc, hq3] at hv'
      exact hv'
theorem open_lstT {α : Type} {k : St α} {t e : TypeId} (ht : Tryd.prog.underlying t = some (.slice e)) (hc : Tryd.prog.cellsOf e = k.s)
    (one : ∀ (n : Nat) (cs : List Value) (x : DataW H × List MemPlace), DataW.trod enc Tryd.prog w base (fun _ => true) held n e cs = some x → ∃ r : α, cs = k.cells r ∧ k.wf r)
    {A : Option Addr} {m c : Nat} {d : DataW H} {p : List MemPlace} (h : DataW.Trod enc Tryd.prog w base (fun _ => true) held t (.slice A m c) d p) : ∃ xs, Lst k w w.heap.size A m xs ∧ m ≤ c ∧ c ≤ maxLen := by
  obtain ⟨fuel, hf⟩ := h
  simp only [Value.cells] at hf
  obtain ⟨A', m', c', xs, e, h⟩ := open_lst ht hc one hf
  simp at e
  obtain ⟨rfl, rfl, rfl⟩ := e
  exact ⟨xs, h⟩
theorem open_truth (n : Nat) (cs : List Value) (x : DataW H × List MemPlace) (h : DataW.trod enc Tryd.prog w base (fun _ => true) held n 4 cs = some x) : ∃ b : Bool, cs = kB.cells b ∧ kB.wf b := by
  obtain ⟨b, hb, _⟩ := DataW.trod_bool Tryd.underlying4 h
  exact ⟨b, hb, trivial⟩
end
end Go.Proofs.YtipmfficjomcoaaDoor.Vm
