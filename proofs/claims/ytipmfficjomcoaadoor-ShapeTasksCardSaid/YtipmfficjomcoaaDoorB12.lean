/-
  dominohelp.Stops of package shape's Tasks: told to stop behind so many tasks it hands out no more.
  The document's own tasks (package dominoref17's Tasks), by their contract.
-/
import Derived.Test.YtipmfficjomcoaaDoorB10
import Derived.Test.YtipmfficjomcoaaDoorB7
set_option linter.unusedVariables false
namespace Go.Proofs.YtipmfficjomcoaaDoor.Sh
open Go.RowKit Go.Shelf Mem Held Go.Proofs.YtipmfficjomcoaaDoor.Range Sl
attribute [local go_sem] Oper.semAt_some
attribute [local irreducible] wpList wpListIn Calls
set_option maxRecDepth 100000 in
set_option maxHeartbeats 16000000 in
theorem tasks_s (N bp : Nat) (r k b wk : Int) (hk0 : -9223372036854775808 ≤ k) (hk1 : k ≤ 9223372036854775807) (hN : 4 ≤ N) (w : World) (q : Blk w bp 23 #[.int .i64 r, .int .i64 k, .int .i64 b, .int .i64 wk]) (hT : Bi.TzT w) :
    ∀ (gt gk : Nat) (J Jx : (Nat → Prop) → Nat → World → Prop) (W : World), Below w.heap.size w W → Stay J → Stay Jx →
    (∀ pv k' x W1, J pv k' W1 → atA (inN r k b wk) (mpN r k b wk) (mN r k b wk) (tN r k b wk) k' = some x → Calls Tryd.prog 39 #[.int .i64 (x.1 : Int), tkV x.2, .pointer (some ⟨gt, 0, none⟩), .pointer (some ⟨gk, 0, none⟩)] W1 fun e W' => KeepsP (fun r => r = 1 ∨ pv r) W1 W' ∧
      ((e = .returned (.bool true) ∧ J pv (k' + 1) W') ∨ (e = .returned (.bool false) ∧ Jx pv (k' + 1) W'))) →
    J (fun _ => False) 0 W → CallsIn Fence.wide N Tryd.prog 32 (#[.func (.func 39) #[] #[.pointer (some ⟨gt, 0, none⟩), .pointer (some ⟨gk, 0, none⟩)]] ++ #[.pointer (some ⟨bp, 0, none⟩)]) W fun e W' => (∃ v, e = .returned v) ∧ ((∃ pv k', atA (inN r k b wk) (mpN r k b wk) (mN r k b wk) (tN r k b wk) k' = none ∧ J pv k' W') ∨ ∃ pv k', Jx pv k' W') := by
  have h := job_of (r := r) (b := b) (wk := wk) hk0 hk1
  have HJ := Lib.hid (fun (W : World) => jobOf_any r k b wk W)
  generalize inN r k b wk = I at *
  generalize mpN r k b wk = mp at *
  generalize mN r k b wk = M at *
  generalize tN r k b wk = T at *
  obtain ⟨K, hK⟩ : ∃ K, k = K := ⟨_, rfl⟩
  have HJ : Hid (∀ W, Calls Tryd.prog 33 #[.agg #[.int .i64 r, .int .i64 k, .int .i64 b, .int .i64 wk]] W fun e w' => e = .returned (.agg #[.int .i64 K, .int .i64 (I : Int), .int .i64 (M : Int)]) ∧ Below W.heap.size W w') := by rw [← hK]; exact HJ
  rw [hK] at h
  clear hk0 hk1 hK
  intro gt gk J Jx W hW hJ hJx hY h0
  have hT0 := hT.below hW hT.lt
  have qp := q.after hW
  have HGP := Lib.hid (fun (bq : Nat) (X : World) (q : Blk X bq 62 #[.int .i64 K, .int .i64 (I : Int), .int .i64 (M : Int)]) (hT : Bi.TzT X) => groups_p (N - 1) bq K I mp M T h X q hT)
  have HTK := Lib.hid (fun (i : Nat) (g : Gr) (hg : (grs I mp M T)[i]? = some g) (X : World) (hT : Bi.TzT X) => tasks_any K I mp M T i g h hg X hT)
  have HAT := Lib.hid (fun (i j : Nat) (g : Gr) (y : Nat × Tk) (hg : (grs I mp M T)[i]? = some g) (hy : atG mp M g j = some y) => atA_group h hg hy)
  have HIX := Lib.hid (fun (i : Nat) (g : Gr) (hg : (grs I mp M T)[i]? = some g) => show frstA I mp M T i = g.fi ∧ frstA I mp M T (i + 1) = g.fi + g.sz from ⟨by unfold frstA; have := (chn_at (grs_chn h).1 hg).1; omega, take_next (grs_chn h).1 hg⟩)
  have HGE := Lib.hid (fun (i j : Nat) (g : Gr) (hg : (grs I mp M T)[i]? = some g) (hj : j ≤ g.sz) (hn : atG mp M g j = none) => atG_end h hg hj hn)
  have HGL := Lib.hid (fun (i j : Nat) (g : Gr) (y : Nat × Tk) (hg : (grs I mp M T)[i]? = some g) (hy : atG mp M g j = some y) => (atG_lt h hg hy).1)
  have HEN := Lib.hid (fun (i : Nat) (hg : (grs I mp M T)[i]? = none) => atA_end hg)
  have HY := Lib.hid hY
  clear hY h hW hT q
  refine callsIn_of_wp_marks Tryd.func32 rfl trivial ?_ rfl
  simp only [Tryd.ntmps32, List.size_toArray, List.length_cons, List.length_nil, Nat.reduceAdd, Nat.reduceSub, Array.replicate_succ, Array.replicate_zero, List.push_toArray, List.append_toArray, List.nil_append, List.cons_append]
  gi_wp2_with (first
    | (refine Held.wpListIn_one (r := none) rfl (by intro c e; cases e) ?_; refine Held.wpList_box_cell (w := W) rfl 60 _ rfl (.func (.func 39) #[] #[.pointer (some ⟨gt, 0, none⟩), .pointer (some ⟨gk, 0, none⟩)]) rfl rfl ?_; intro u1 q1 g1 z1; have q1 : Blk u1 W.heap.size 60 #[.func (.func 39) #[] #[.pointer (some ⟨gt, 0, none⟩), .pointer (some ⟨gk, 0, none⟩)]] := q1; have b1 : Below W.heap.size W u1 := (Below.refl _ W).grown g1 (Nat.le_refl _) (by simp); have qp1 := qp.after b1; refine wpList_nil ⟨rfl, ?_⟩)
    | (refine Held.wpListIn_one (r := none) rfl (by intro c e; cases e) ?_; refine wpList_load_blk (w := u1) rfl 23 _ rfl (bp) 4 rfl 23 _ qp1 _ Tryd.underlying23 rfl (by kernel_rfl) rfl ?_; refine wpList_nil ⟨rfl, ?_⟩))
  first | (refine ⟨trivial, fun h => (by cases h), ?_⟩; refine (callsIn_wide.2 (HJ.out u1)).mono ?_) | (refine ⟨trivial, ?_⟩; refine (callsIn_wide.2 (HJ.out u1)).mono ?_)
  rintro e u2 ⟨rfl, b2⟩
  have qy2 := q1.after b2
  gi_wp2_with (first
    | (refine Held.wpListIn_one (r := none) rfl (by intro c e; cases e) ?_; refine wpList_alloc_blk (w := u2) rfl 62 rfl #[.int .i64 0, .int .i64 0, .int .i64 0] (by kernel_rfl) ?_; intro u3 qu3 gu3 zu3; refine wpList_nil ⟨rfl, ?_⟩)
    | (refine Held.wpListIn_one (r := none) rfl (by intro c e; cases e) ?_; refine wpList_store_blk (w := u3) rfl 62 _ _ rfl (u2.heap.size) 3 rfl 62 _ #[.int .i64 K, .int .i64 (I : Int), .int .i64 (M : Int)] rfl qu3 (by kernel_rfl) rfl rfl (by kernel_rfl) ?_; intro u4 qu4 gu4 zu4; have b4 : Below u2.heap.size u2 u4 := ((Below.refl _ u2).grown gu3 (Nat.le_refl _) (by simp)).grown gu4 gu3.size (fun r e => by cases e; exact Nat.le_refl _); refine wpList_nil ⟨rfl, ?_⟩)
    | (refine Held.wpListIn_one (r := none) rfl (by intro c e; cases e) ?_; refine wpList_load_blk (w := u4) rfl 62 _ rfl (u2.heap.size) 3 rfl 62 _ qu4 _ Tryd.underlying62 rfl (by kernel_rfl) rfl ?_; refine wpList_nil ⟨rfl, ?_⟩))
  first | (refine ⟨trivial, fun h => (by cases h), ?_⟩; refine (callsIn_wide.2 (groups_any K I M u4)).mono ?_) | (refine ⟨trivial, ?_⟩; refine (callsIn_wide.2 (groups_any K I M u4)).mono ?_)
  rintro e u5 ⟨bq, rfl, qq5, hbq, b5⟩
  have qy5 := (qy2.after b4).after b5
  have qj5 := qu4.after b5
  have bb : Below W.heap.size W u5 := b1.trans ((b2.mono b1.size).trans ((b4.mono (Nat.le_trans b1.size b2.size)).trans (b5.mono (Nat.le_trans b1.size (Nat.le_trans b2.size b4.size)))))
  have hT5 := hT0.below bb hT0.lt
  have J5 := hJ.all h0 bb
  have lT : 1 < W.heap.size := hT0.lt
  have ly : W.heap.size < u1.heap.size := q1.lt
  have l12 := b2.size
  have lj : u2.heap.size < u4.heap.size := qu4.lt
  have l45 := b5.size
  have lq : bq < u5.heap.size := qq5.lt
  have hit := HGP.out bq u5 qq5 hT5
  generalize hby : W.heap.size = by_ at *
  generalize hbj : u2.heap.size = bj at *
  clear b1 b2 b4 b5 bb qp1 qy2 q1 qu3 qu4 g1 gu3 gu4 z1 zu3 zu4 h0 hT0 HGP HJ hby hbj qp
  gi_wp2_with fail
  refine wpIn_rangeFunc_p rfl (show 1 ≤ N by omega) (gf := 54) (lb := #[.pointer (some ⟨bq, 0, none⟩)]) rfl trivial (enters_of Tryd.func54 (by kernel_rfl) rfl)
    hit (Below.refl _ _) (fun _ => rfl) (fun b hb => by rcases hb with rfl | rfl <;> omega)
    (Inn J (fun b => b = by_ ∨ b = bj ∨ b = bq) (fun b => b = 1) (fun k X => Blk X by_ 60 #[.func (.func 39) #[] #[.pointer (some ⟨gt, 0, none⟩), .pointer (some ⟨gk, 0, none⟩)]] ∧ Blk X bj 62 #[.int .i64 K, .int .i64 (I : Int), .int .i64 (M : Int)] ∧ Bi.TzT X) (frstA I mp M T))
    (fun c pv k X => c = .ret ∧ Out Jx pv k X) ?hI ?hIx ?h0
    (fun pv i x a' X => ∃ bg, Inn J (fun r => r = bg ∨ (r = by_ ∨ r = bj ∨ r = bq)) (fun b => b = 1) (fun k X => (Blk X by_ 60 #[.func (.func 39) #[] #[.pointer (some ⟨gt, 0, none⟩), .pointer (some ⟨gk, 0, none⟩)]] ∧ Blk X bj 62 #[.int .i64 K, .int .i64 (I : Int), .int .i64 (M : Int)] ∧ Bi.TzT X) ∧ Blk X bg 68 #[.int .i64 x.kd, .int .i64 x.rd, .int .i64 (x.sz : Int), .int .i64 (x.fi : Int)]) (frstA I mp M T) pv i X ∧ a' = { tmps := #[.func (.func 39) #[] #[.pointer (some ⟨gt, 0, none⟩), .pointer (some ⟨gk, 0, none⟩)], .pointer (some ⟨bp, 0, none⟩), .pointer (some ⟨by_, 0, none⟩), .pointer (some ⟨bj, 0, none⟩), .pointer (some ⟨bg, 0, none⟩), undef, undef, .agg #[.int .i64 r, .int .i64 k, .int .i64 b, .int .i64 wk], .agg #[.int .i64 K, .int .i64 (I : Int), .int .i64 (M : Int)], .agg #[.int .i64 K, .int .i64 (I : Int), .int .i64 (M : Int)], .func (.func 54) #[] #[.pointer (some ⟨bq, 0, none⟩)], grV x, undef, undef, undef, undef, undef, undef, undef, undef, undef, undef], defers := [] }) ?hIb ?assign ?body ?done ?stop
  case hI =>
    refine stay_inn hJ ?_
    rintro i X X' ⟨a1, a2, a3⟩ kp
    exact ⟨kp_blk kp a1 (by simp), kp_blk kp a2 (by simp), kp_tz kp a3 (by simp)⟩
  case hIx => exact fun c => stay_and stay_const (stay_out hJx)
  case h0 =>
    refine inn_start J5 ?_ ?_ ⟨qy5, qj5, hT5⟩
    · intro b hb
      rcases hb with rfl | rfl | rfl <;> exact .inr ⟨by omega, by omega⟩
    · intro b hb
      rcases hb with (rfl | rfl | rfl) | rfl <;> omega
  case hIb =>
    rintro pv i x a' X X' b ⟨bg, h1, h2⟩ hb hg
    refine ⟨bg, (stay_inn hJ ?_).put _ _ _ _ _ h1 hb hg, h2⟩
    rintro i X X' ⟨⟨a1, a2, a3⟩, a4⟩ kp
    exact ⟨⟨kp_blk kp a1 (by simp), kp_blk kp a2 (by simp), kp_tz kp a3 (by simp)⟩, kp_blk kp a4 (by simp)⟩
  case assign =>
    rintro l' pv i x X C hl' hI hat hC
    simp only [grV, List.zip_toArray, List.zip_cons_cons, List.zip_nil_right, List.foldl_toArray, List.foldl_cons, List.foldl_nil, List.setIfInBounds_toArray, List.set_cons_zero, List.set_cons_succ]
    gi_wp2_with (first
      | (refine Held.wpListIn_one (r := some l') rfl (by intro c e; cases e) ?_; refine wpList_alloc_blk (w := X) rfl 68 rfl #[.int .i64 0, .int .i64 0, .int .i64 0, .int .i64 0] (by kernel_rfl) ?_; intro X1 qX1 gX1 zX1; refine wpList_nil ⟨rfl, ?_⟩)
      | (refine Held.wpListIn_one (r := some l') rfl (by intro c e; cases e) ?_; refine wpList_store_blk (w := X1) rfl 68 _ _ rfl (X.heap.size) 4 rfl 68 _ #[.int .i64 x.kd, .int .i64 x.rd, .int .i64 (x.sz : Int), .int .i64 (x.fi : Int)] rfl qX1 (by kernel_rfl) rfl rfl (by kernel_rfl) ?_; intro X2 qX2 gX2 zX2; have bx : Below X.heap.size X X2 := ((Below.refl _ X).grown gX1 (Nat.le_refl _) (by simp)).grown gX2 gX1.size (fun r e => by cases e; exact Nat.le_refl _); refine wpList_nil ⟨rfl, ?_⟩))
    refine hC _ _ (KeepsP.of_below bx) ⟨X.heap.size, inn_more hJ hI bx (Nat.le_refl _) qX2.lt ?_, rfl⟩
    rintro ⟨a1, a2, a3⟩ kp
    exact ⟨⟨kp_blk kp a1 (by simp), kp_blk kp a2 (by simp), kp_tz kp a3 (by simp)⟩, qX2⟩
  case body =>
    rintro l' pv i g a' X hl' ⟨lr, hlr⟩ ⟨bg, ⟨pvo, p1, p2, p3, p4, p5, ⟨qy, qj, hT0⟩, qg⟩, rfl⟩ hat
    obtain ⟨hi1, hi2⟩ := HIX.out i g hat
    simp only [hi1, grV] at p2 ⊢
    gi_wp2_with (first
      | (refine Held.wpListIn_one (r := some l') rfl (by intro c e; cases e) ?_; refine wpList_load_blk (w := X) rfl 62 _ rfl (bj) 3 rfl 62 _ qj _ Tryd.underlying62 rfl (by kernel_rfl) rfl ?_; refine wpList_nil ⟨rfl, ?_⟩)
      | (refine Held.wpListIn_one (r := some l') rfl (by intro c e; cases e) ?_; refine wpList_load_blk (w := X) rfl 68 _ rfl (bg) 4 rfl 68 _ qg _ Tryd.underlying68 rfl (by kernel_rfl) rfl ?_; refine wpList_nil ⟨rfl, ?_⟩))
    first | (refine ⟨trivial, fun h => (by cases h), ?_⟩; refine (callsIn_wide.2 (HTK.out i g hat X hT0)).mono ?_) | (refine ⟨trivial, ?_⟩; refine (callsIn_wide.2 (HTK.out i g hat X hT0)).mono ?_)
    rintro e X2 ⟨gf, lb, Nd, rfl, hent, hsq, hNd, b2⟩
    have J2 := hJ.all p2 b2
    have qy2 := qy.after b2
    have qj2 := qj.after b2
    have hT2 := hT0.below b2 hT0.lt
    have hl2 : X2.heap[l']? = some (.loop lr) := (b2.block l' (Array.getElem?_eq_some_iff.1 hlr).1).trans hlr
    have hx2 := b2.size
    have lpv := p5
    have l3y := (p4 by_ (.inl (.inr (.inl rfl)))).2
    have l3j := (p4 bj (.inl (.inr (.inr (.inl rfl))))).2
    have l3q := (p4 bq (.inl (.inr (.inr (.inr rfl))))).2
    have l3T := (p4 1 (.inr rfl)).2
    have n3y := (p4 by_ (.inl (.inr (.inl rfl)))).1
    have n3j := (p4 bj (.inl (.inr (.inr (.inl rfl))))).1
    have n3q := (p4 bq (.inl (.inr (.inr (.inr rfl))))).1
    have n3T := (p4 1 (.inr rfl)).1
    have p3y : pvo by_ := p3 by_ (.inr (.inl rfl))
    have p3j : pvo bj := p3 bj (.inr (.inr (.inl rfl)))
    have p3q : pvo bq := p3 bq (.inr (.inr (.inr rfl)))
    have kX2 : KeepsP (fun b => (b = bq ∨ b = 1) ∨ pv b) X X2 := KeepsP.of_below b2
    clear HTK p4 p3 qy qj hT0 qg b2 p2 hlr
    gi_wp2_with fail
    refine wpIn_rangeFunc_pN rfl hl2 (show 1 ≤ N - 1 - 1 by omega) (gf := gf) (lb := lb) rfl trivial (hent)
      ((hsq (N - 1 - 1 - 1) (by omega)).inRound l') (Below.refl _ _) (fun _ => rfl) (fun b hb => by rcases hNd b hb with rfl | hb <;> omega)
      (Inn J (fun b => (b = by_ ∨ b = bj ∨ b = bq) ∨ pv b ∨ (X.heap.size ≤ b ∧ b < X2.heap.size)) (fun b => b = 1) (fun j Z => (j ≤ g.sz ∧ Blk Z by_ 60 #[.func (.func 39) #[] #[.pointer (some ⟨gt, 0, none⟩), .pointer (some ⟨gk, 0, none⟩)]] ∧ Blk Z bj 62 #[.int .i64 K, .int .i64 (I : Int), .int .i64 (M : Int)] ∧ Bi.TzT Z) ∧ KeepsP (fun b => (b = bq ∨ b = 1) ∨ pv b) X Z) (fun k2 => g.fi + k2))
      (fun c pv2 j Z => c = .ret ∧ ∃ q, Inn Jx (fun b => (b = by_ ∨ b = bj ∨ b = bq) ∨ pv b ∨ (X.heap.size ≤ b ∧ b < X2.heap.size)) (fun b => b = 1) (fun _ Z => KeepsP (fun b => (b = bq ∨ b = 1) ∨ pv b) X Z) (fun _ => q) pv2 j Z) ?iI ?iIx ?i0
      (fun pv2 j y a' Z => ∃ bt, Inn J (fun r => r = bt ∨ ((r = by_ ∨ r = bj ∨ r = bq) ∨ pv r ∨ (X.heap.size ≤ r ∧ r < X2.heap.size))) (fun b => b = 1) (fun j Z => ((j ≤ g.sz ∧ Blk Z by_ 60 #[.func (.func 39) #[] #[.pointer (some ⟨gt, 0, none⟩), .pointer (some ⟨gk, 0, none⟩)]] ∧ Blk Z bj 62 #[.int .i64 K, .int .i64 (I : Int), .int .i64 (M : Int)] ∧ Bi.TzT Z) ∧ KeepsP (fun b => (b = bq ∨ b = 1) ∨ pv b) X Z) ∧ Blk Z bt 34 #[.int .i64 y.2.kd, .int .i64 y.2.rd, .int .i64 y.2.a, .int .i64 y.2.b, .bool y.2.up]) (fun k2 => g.fi + k2) pv2 j Z ∧ a' = { tmps := #[.func (.func 39) #[] #[.pointer (some ⟨gt, 0, none⟩), .pointer (some ⟨gk, 0, none⟩)], .pointer (some ⟨bp, 0, none⟩), .pointer (some ⟨by_, 0, none⟩), .pointer (some ⟨bj, 0, none⟩), .pointer (some ⟨bg, 0, none⟩), .int .i64 (y.1 : Int), .pointer (some ⟨bt, 0, none⟩), .agg #[.int .i64 r, .int .i64 k, .int .i64 b, .int .i64 wk], .agg #[.int .i64 K, .int .i64 (I : Int), .int .i64 (M : Int)], .agg #[.int .i64 K, .int .i64 (I : Int), .int .i64 (M : Int)], .func (.func 54) #[] #[.pointer (some ⟨bq, 0, none⟩)], .agg #[.int .i64 g.kd, .int .i64 g.rd, .int .i64 (g.sz : Int), .int .i64 (g.fi : Int)], .agg #[.int .i64 K, .int .i64 (I : Int), .int .i64 (M : Int)], .agg #[.int .i64 g.kd, .int .i64 g.rd, .int .i64 (g.sz : Int), .int .i64 (g.fi : Int)], .func (.func gf) #[] lb, .int .i64 (y.1 : Int), tkV y.2, undef, undef, undef, undef, undef], defers := [] }) ?iIb ?iassign ?ibody ?idone ?istop
    case iI =>
      refine stay_inn hJ ?_
      rintro j Z Z' ⟨⟨a0, a1, a2, a3⟩, a4⟩ kp
      exact ⟨⟨a0, kp_blk kp a1 (by simp), kp_blk kp a2 (by simp), kp_tz kp a3 (by simp)⟩, a4.trans (kp.less (fun b hb => hb.elim (fun hb => hb.elim (fun e => .inl (.inl (.inr (.inr e)))) .inr) (fun hb => .inl (.inr (.inl hb)))))⟩
    case iIx =>
      refine fun c => stay_and stay_const (stay_ex fun q => stay_inn hJx ?_)
      rintro j Z Z' a4 kp
      exact a4.trans (kp.less (fun b hb => hb.elim (fun hb => hb.elim (fun e => .inl (.inl (.inr (.inr e)))) .inr) (fun hb => .inl (.inr (.inl hb)))))
    case i0 =>
      refine inn_start J2 ?_ ?_ ⟨⟨Nat.zero_le _, qy2, qj2, hT2⟩, kX2⟩
      · intro b hb
        rcases hb with (rfl | rfl | rfl) | hb | hb
        · exact .inl p3y
        · exact .inl p3j
        · exact .inl p3q
        · exact .inl (p1 b hb)
        · exact .inr hb
      · intro b hb
        rcases hb with ((rfl | rfl | rfl) | hb | hb) | rfl
        · omega
        · omega
        · omega
        · have := lpv b hb; omega
        · omega
        · omega
    case iIb =>
      rintro pv2 j y a' Z Z' b ⟨bt, h1, h2⟩ hb hg
      refine ⟨bt, (stay_inn hJ ?_).put _ _ _ _ _ h1 hb hg, h2⟩
      rintro j Z Z' ⟨⟨⟨a0, a1, a2, a3⟩, a4⟩, a5⟩ kp
      exact ⟨⟨⟨a0, kp_blk kp a1 (by simp), kp_blk kp a2 (by simp), kp_tz kp a3 (by simp)⟩, a4.trans (kp.less (fun b hb => hb.elim (fun hb => hb.elim (fun e => .inl (.inr (.inl (.inr (.inr e))))) .inr) (fun hb => .inl (.inr (.inr (.inl hb))))))⟩, kp_blk kp a5 (by simp)⟩
    case iassign =>
      rintro l2 pv2 j y Z C hl2' hI hat2 hC
      simp only [encT, tkV, List.zip_toArray, List.zip_cons_cons, List.zip_nil_right, List.foldl_toArray, List.foldl_cons, List.foldl_nil, List.setIfInBounds_toArray, List.set_cons_zero, List.set_cons_succ]
      gi_wp2_with (first
        | (refine Held.wpListIn_one (r := some l2) rfl (by intro c e; cases e) ?_; refine wpList_alloc_blk (w := Z) rfl 34 rfl #[.int .i64 0, .int .i64 0, .int .i64 0, .int .i64 0, .bool false] (by kernel_rfl) ?_; intro Z1 qZ1 gZ1 zZ1; refine wpList_nil ⟨rfl, ?_⟩)
        | (refine Held.wpListIn_one (r := some l2) rfl (by intro c e; cases e) ?_; refine wpList_store_blk (w := Z1) rfl 34 _ _ rfl (Z.heap.size) 5 rfl 34 _ #[.int .i64 y.2.kd, .int .i64 y.2.rd, .int .i64 y.2.a, .int .i64 y.2.b, .bool y.2.up] rfl qZ1 (by kernel_rfl) rfl rfl (by kernel_rfl) ?_; intro Z2 qZ2 gZ2 zZ2; have bx : Below Z.heap.size Z Z2 := ((Below.refl _ Z).grown gZ1 (Nat.le_refl _) (by simp)).grown gZ2 gZ1.size (fun r e => by cases e; exact Nat.le_refl _); refine wpList_nil ⟨rfl, ?_⟩))
      refine hC _ _ (KeepsP.of_below bx) ⟨Z.heap.size, inn_more hJ hI bx (Nat.le_refl _) qZ2.lt ?_, rfl⟩
      rintro ⟨⟨a0, a1, a2, a3⟩, a4⟩ kp
      exact ⟨⟨⟨a0, kp_blk kp a1 (by simp), kp_blk kp a2 (by simp), kp_tz kp a3 (by simp)⟩, a4.trans (kp.less (fun b hb => hb.elim (fun hb => hb.elim (fun e => .inl (.inl (.inr (.inr e)))) .inr) (fun hb => .inl (.inr (.inl hb)))))⟩, qZ2⟩
    case ibody =>
      rintro l2 pv2 j y a' Z hl2' - ⟨bt, ⟨pvi, i1, i2, i3, i4, i5, ⟨⟨i6, qy, qj, hT0⟩, kXZ⟩, qt⟩, rfl⟩ hat2
      have hjs := HGL.out i j g y hat hat2
      have ci := qy.cell (i := 0) rfl
      have hy := HY.out pvi (g.fi + j) y Z i2 (HAT.out i j g y hat hat2)
      have hy : Calls Tryd.prog 39 #[.int .i64 (y.1 : Int), .agg #[.int .i64 y.2.kd, .int .i64 y.2.rd, .int .i64 y.2.a, .int .i64 y.2.b, .bool y.2.up], .pointer (some ⟨gt, 0, none⟩), .pointer (some ⟨gk, 0, none⟩)] Z _ := hy
      gi_wp2_with (first
        | (refine Held.wpListIn_one (r := some l2) rfl (by intro c e; cases e) ?_; refine wpList_load_blk (w := Z) rfl 34 _ rfl (bt) 5 rfl 34 _ qt _ Tryd.underlying34 rfl (by kernel_rfl) rfl ?_; refine wpList_nil ⟨rfl, ?_⟩))
      first | (refine ⟨trivial, fun h => (by cases h), ?_⟩; refine (callsIn_wide.2 hy).mono ?_) | (refine ⟨trivial, ?_⟩; refine (callsIn_wide.2 hy).mono ?_) | (refine (callsIn_wide.2 hy).mono ?_)
      rintro e Z2 ⟨kp, hor⟩
      have kN : KeepsP (fun b => Nd b ∨ pv2 b) Z Z2 := KeepsP.less kp (fun b hb => hb.elim (fun hb => (hNd b hb).elim .inl (fun hb => .inr (i3 b (.inr (.inr (.inr hb)))))) (fun hb => .inr (i1 b hb)))
      have kXZ2 : KeepsP (fun b => (b = bq ∨ b = 1) ∨ pv b) X Z2 := kXZ.trans (KeepsP.less kp (fun b hb => hb.elim (fun hb => hb.elim (fun e => .inr (i3 b (.inr (.inl (.inr (.inr e)))))) .inl) (fun hb => .inr (i3 b (.inr (.inr (.inl hb)))))))
      have qy2' := kp_blk kp qy (.inr (i3 by_ (.inr (.inl (.inl rfl)))))
      have qj2' := kp_blk kp qj (.inr (i3 bj (.inr (.inl (.inr (.inl rfl))))))
      have hT2' := kp_tz kp hT0 (.inl rfl)
      have hzz := kN.size
      have j3 : ∀ b, ((b = by_ ∨ b = bj ∨ b = bq) ∨ pv b ∨ (X.heap.size ≤ b ∧ b < X2.heap.size)) → pvi b := fun b hb => i3 b (.inr hb)
      have j4 : ∀ b, (((b = by_ ∨ b = bj ∨ b = bq) ∨ pv b ∨ (X.heap.size ≤ b ∧ b < X2.heap.size)) ∨ b = 1) → ¬ pv2 b ∧ b < Z2.heap.size := fun b hb => ⟨(i4 b (hb.elim (fun h => .inl (.inr h)) .inr)).1, Nat.lt_of_lt_of_le (i4 b (hb.elim (fun h => .inl (.inr h)) .inr)).2 hzz⟩
      have j5 : ∀ b, pv2 b → b < Z2.heap.size := fun b hb => Nat.lt_of_lt_of_le (i5 b hb) hzz
      rcases hor with ⟨rfl, J3⟩ | ⟨rfl, x3⟩
      · clear hy i3 i4 i5 kp qy qj hT0 kXZ qt ci
        gi_wp2_with fail
        exact ⟨kN, pvi, i1, J3, j3, j4, j5, ⟨⟨hjs, qy2', qj2', hT2'⟩, kXZ2⟩⟩
      · clear hy i3 i4 i5 kp qy qj hT0 kXZ qt ci
        gi_wp2_with fail
        exact ⟨kN, rfl, _, pvi, i1, x3, j3, j4, j5, kXZ2⟩
    case idone =>
      rintro pv2 j Z hat2 ⟨pvi, i1, i2, i3, i4, i5, ⟨⟨i6, qy, qj, hT0⟩, kXZ⟩⟩
      obtain rfl := HGE.out i j g hat i6 hat2
      have hzz := kXZ.size
      gi_wp2_with fail
      refine ⟨kXZ, pvi, fun b hb => i3 b (.inr (.inl hb)), by rw [hi2]; exact i2, fun b hb => i3 b (.inl hb), fun b hb => ?_, fun b hb => by have := lpv b hb; omega, qy, qj, hT0⟩
      rcases hb with (rfl | rfl | rfl) | rfl
      · exact ⟨n3y, by omega⟩
      · exact ⟨n3j, by omega⟩
      · exact ⟨n3q, by omega⟩
      · exact ⟨n3T, by omega⟩
    case istop =>
      rintro c pv2 j Z ⟨rfl, q, pvi, i1, i2, i3, i4, i5, kXZ⟩
      gi_wp2_with fail
      exact ⟨kXZ, rfl, pvi, _, fun b hb => i3 b (.inr (.inl hb)), i2⟩
  case stop =>
    rintro D cc pv i X ⟨rfl, pvo, k', p1, x2⟩ hD hDh
    gi_wp2_with fail
    refine ⟨by simp, .inl ⟨_, _, rfl, run_takeDeferred hDh, ?_⟩⟩
    exact ⟨_, results_none rfl _ _ _, ⟨_, rfl⟩, .inr ⟨pvo, k', hJx.put _ _ _ _ D x2 (p1 D hD) (grownBy_putObj' _ _ _)⟩⟩
  case done =>
    rintro D pv i X hat ⟨pvo, p1, p2, -⟩ hD hDh
    gi_wp2_with fail
    refine ⟨by simp, .inl ⟨_, _, rfl, run_takeDeferred hDh, ?_⟩⟩
    exact ⟨_, results_none rfl _ _ _, ⟨_, rfl⟩, .inl ⟨pvo, _, HEN.out i hat, hJ.put _ _ _ _ D p2 (p1 D hD) (grownBy_putObj' _ _ _)⟩⟩
set_option maxRecDepth 100000 in
set_option maxHeartbeats 2000000 in
theorem toldt_any (gt gk c K : Nat) (x : Int) (t : Tk) (w : World) (h : Blk w gt 3 #[.int .i64 (c : Int)]) (hk : Blk w gk 3 #[.int .i64 (K : Int)]) (hne : gk ≠ gt) (hc : c ≤ 70000) :
    Calls Tryd.prog 39 #[.int .i64 x, tkV t, .pointer (some ⟨gt, 0, none⟩), .pointer (some ⟨gk, 0, none⟩)] w fun e w' =>
      e = .returned (.bool (decide ((c : Int) + 1 < (K : Int)))) ∧ Blk w' gt 3 #[.int .i64 ((c + 1 : Nat) : Int)] ∧ w.grownBy w' (some gt) := by
  have hlt : gt < w.heap.size := h.lt
  have hlk : gk < w.heap.size := hk.lt
  change Calls _ _ #[.int .i64 x, .agg #[.int .i64 t.kd, .int .i64 t.rd, .int .i64 t.a, .int .i64 t.b, .bool t.up], .pointer (some ⟨gt, 0, none⟩), .pointer (some ⟨gk, 0, none⟩)] _ _
  go_enter Tryd.func39, Tryd.ntmps39
  go_wp2_with (first
    | (refine wpList_box_blk (w := w) rfl 34 _ rfl _ rfl ?_; intro w0 q0 g0 z0; have h0 := h.grown g0 (by simp); have hk0 := hk.grown g0 (by simp); have c1 := h0.cell (i := 0) rfl; have c2 := hk0.cell (i := 0) rfl)
    | (refine Held.wpList_store_box (w := w0) rfl 3 _ _ rfl gt rfl 3 _ (.int .i64 ((c : Int) + 1)) rfl h0 (by kernel_rfl) rfl rfl ?_; intro w1 q1 g1; have k1 := Held.keep_cells hk0 g1 (by intro e; injection e with e; exact hne e); have c3 := cell_of_one q1; have c4 := cell_of_one k1; clear c1 c2))
  go_ret
  exact ⟨rfl, by rw [show ((c + 1 : Nat) : Int) = (c : Int) + 1 by omega]; exact q1, Lib.grownBy_trans (grown_of_below ((Below.refl _ w).grown g0 (Nat.le_refl _) (by simp)) (some gt)) g1⟩
def ST (w : World) (gt gk K : Nat) (C : Nat → Prop) (pv : Nat → Prop) (q : Nat) (W : World) : Prop :=
  C q ∧ Blk W gt 3 #[.int .i64 (q : Int)] ∧ Blk W gk 3 #[.int .i64 (K : Int)] ∧ (¬ pv gt ∧ ¬ pv gk) ∧ KeepsP (fun b => b < w.heap.size) w W ∧ ∀ r, pv r → w.heap.size ≤ r ∧ r < W.heap.size
theorem ST.stay (w : World) (gt gk K : Nat) (C : Nat → Prop) : Stay (ST w gt gk K C) where
  new pv pv' s W W' h hg h1 h2 := by
    obtain ⟨a0, a1, a2, a3, a4, a5⟩ := h
    have hs := hg.size
    have hz := a4.size
    refine ⟨a0, a1.grown hg (by simp), a2.grown hg (by simp), ⟨fun hp => ?_, fun hp => ?_⟩, a4.trans (KeepsP.of_grown hg (fun r e => by cases e)), fun r hp => ?_⟩
    · have := a1.lt; exact (h2 _ hp).elim a3.1 (fun h => by omega)
    · have := a2.lt; exact (h2 _ hp).elim a3.2 (fun h => by omega)
    · exact (h2 _ hp).elim (fun h => by have := a5 r h; omega) (fun h => by omega)
  put pv s W W' r h hr hg := by
    obtain ⟨a0, a1, a2, a3, a4, a5⟩ := h
    have hs := hg.size
    have hq := a5 r hr
    exact ⟨a0, a1.grown hg (by intro e; injection e with e; subst e; exact a3.1 hr), a2.grown hg (by intro e; injection e with e; subst e; exact a3.2 hr), a3, a4.trans (KeepsP.of_grown hg (fun b e hb => by injection e with e; omega)), fun r hp => by have := a5 r hp; omega⟩
set_option maxRecDepth 100000 in
set_option maxHeartbeats 8000000 in
theorem stopst_any (bp K : Nat) (r k b wk : Int) (hk0 : -9223372036854775808 ≤ k) (hk1 : k ≤ 9223372036854775807) (w : World) (q : Blk w bp 23 #[.int .i64 r, .int .i64 k, .int .i64 b, .int .i64 wk]) (hT : Bi.TzT w) (hK : 1 ≤ K) (hK2 : K ≤ 70000) :
    Calls Tryd.prog 15 #[.func (.func 32) #[] #[.pointer (some ⟨bp, 0, none⟩)], .int .i64 (K : Int)] w fun e w' =>
      e = .returned (.int .i64 ((min K (tasksT (inN r k b wk) (mpN r k b wk) (mN r k b wk) (tN r k b wk)).length : Nat) : Int)) ∧ Below w.heap.size w w' := by
  have hK0 : ¬ (K : Int) < 1 := by omega
  have hfn := fun W => Held.run_func_nil (P := Tryd.prog) 26 Tryd.underlying26 (.func 32) #[] #[.pointer (some ⟨bp, 0, none⟩)] W
  have HS := tasks_s 4 bp r k b wk hk0 hk1 (by omega) w q hT
  have hTl := hT.lt
  go_enter Tryd.func15, Tryd.ntmps15
  go_wp2_with (first
    | (refine Held.wpList_box_cell (w := w) rfl 3 _ rfl (.int .i64 (K : Int)) rfl rfl ?_; intro w1 h11 g1 z1)
    | (refine Held.wpList_alloc_cell (w := w1) rfl 3 rfl (.int .i64 0) (by kernel_rfl) rfl ?_; intro w2 h22 g2 z2; have h12 := Held.keep_cells h11 g2 (by simp))
    | (refine Held.wpList_store_box (w := w2) rfl 3 _ _ rfl w1.heap.size rfl 3 _ (.int .i64 0) rfl h22 (by kernel_rfl) rfl rfl ?_; intro w3 h23 g3; have l1 : w.heap.size < w1.heap.size := (Array.getElem?_eq_some_iff.1 h11).1; have h13 := Held.keep_cells h12 g3 (by intro e; injection e with e; omega); have c13 := cell_of_one h13))
  have b3 : Below w.heap.size w w3 := (((Below.refl _ w).grown g1 (Nat.le_refl _) (by simp)).grown g2 g1.size (by simp)).grown g3 (by have := g1.size; have := g2.size; omega) (fun r e => by cases e; omega)
  obtain ⟨gt, hgt⟩ : ∃ g, w1.heap.size = g := ⟨_, rfl⟩
  rw [hgt] at l1 h23 ⊢
  clear g1 g2 g3 z1 z2 h11 h12 h22 hgt
  obtain ⟨gk, hgk⟩ : ∃ g, w.heap.size = g := ⟨_, rfl⟩
  have h13' : Blk w3 gk 3 #[.int .i64 (K : Int)] := by rw [← hgk]; exact h13
  have hll : gk < gt := by omega
  have HC := HS gt gk (ST w gt gk K (fun q => q < K ∧ q ≤ (tasksT (inN r k b wk) (mpN r k b wk) (mN r k b wk) (tN r k b wk)).length)) (ST w gt gk K (fun q => q = K ∧ q ≤ (tasksT (inN r k b wk) (mpN r k b wk) (mN r k b wk) (tN r k b wk)).length)) w3 b3 (ST.stay ..) (ST.stay ..) (by
    rintro pv q' x W1 ⟨a0, a1, a2, a3, a4, a5⟩ hat
    have hql : q' < (tasksT (inN r k b wk) (mpN r k b wk) (mN r k b wk) (tN r k b wk)).length := by
      unfold atA at hat
      obtain ⟨t, ht, _⟩ := Option.map_eq_some_iff.1 hat
      exact (List.getElem?_eq_some_iff.1 ht).1
    refine (toldt_any gt gk q' K _ x.2 W1 a1 a2 (by omega) (by omega)).mono ?_
    rintro e W2 ⟨rfl, p1, pg⟩
    have hs := pg.size
    have p2 := a2.grown pg (by intro e; injection e with e; omega)
    have kq : KeepsP (fun r => r = 1 ∨ pv r) W1 W2 := KeepsP.of_grown pg (fun r e hr => by
      injection e with e
      subst e
      rcases hr with hr | hr
      · omega
      · exact a3.1 hr)
    have ka : KeepsP (fun b => b < w.heap.size) w W2 := a4.trans (KeepsP.of_grown pg (fun b e hb => by injection e with e; omega))
    refine ⟨kq, ?_⟩
    by_cases hgo : q' + 1 < K
    · exact .inl ⟨by rw [decide_eq_true (show (q' : Int) + 1 < (K : Int) by omega)], ⟨hgo, by omega⟩, p1, p2, a3, ka, fun r hp => by have := a5 r hp; omega⟩
    · exact .inr ⟨by rw [decide_eq_false (show ¬ (q' : Int) + 1 < (K : Int) by omega)], ⟨by omega, by omega⟩, p1, p2, a3, ka, fun r hp => by have := a5 r hp; omega⟩) ⟨⟨by omega, Nat.zero_le _⟩, h23, h13', ⟨fun h => h, fun h => h⟩, ⟨b3.os, b3.tape, b3.output, b3.size, fun r o hr ho => (b3.block r hr).trans ho⟩, fun r h => h.elim⟩
  have hmin : ∀ q', atA (inN r k b wk) (mpN r k b wk) (mN r k b wk) (tN r k b wk) q' = none → (tasksT (inN r k b wk) (mpN r k b wk) (mN r k b wk) (tN r k b wk)).length ≤ q' := fun q' h => by
    unfold atA at h
    rw [Option.map_eq_none_iff, List.getElem?_eq_none_iff] at h
    exact h
  have HD := Lib.hid (callsIn_wide.1 HC)
  have hgk2 : w.heap.size = gk := hgk
  generalize hl : (tasksT (inN r k b wk) (mpN r k b wk) (mN r k b wk) (tN r k b wk)).length = L at *
  have HLL := Lib.hid hl
  clear HC HS hl
  rw [hgk]
  go_wp2_with fail
  refine HD.out.mono ?_
  rintro e w4 ⟨⟨v, rfl⟩, hor⟩
  have hfin : Blk w4 gt 3 #[.int .i64 ((min K L : Nat) : Int)] ∧ KeepsP (fun b => b < w.heap.size) w w4 := by
    rcases hor with ⟨pv, q', hn, a0, a1, a2, a3, a4, a5⟩ | ⟨pv, q', a0, a1, a2, a3, a4, a5⟩
    · have := hmin q' hn
      rw [show min K L = q' by omega]
      exact ⟨a1, a4⟩
    · rw [show min K L = q' by omega]
      exact ⟨a1, a4⟩
  obtain ⟨q4, k4⟩ := hfin
  have c44 := cell_of_one q4
  have B4 := k4.below (Nat.le_refl _) (fun _ h => h)
  clear c13
  go_wp2_with fail
  go_ret
  exact ⟨by rw [HLL.out]; rfl, B4⟩
end Go.Proofs.YtipmfficjomcoaaDoor.Sh
namespace Go.Proofs.YtipmfficjomcoaaDoor.Sh
open Go.RowKit Go.Shelf Mem Held Go.Proofs.YtipmfficjomcoaaDoor.Range Sl
attribute [local go_sem] Oper.semAt_some
attribute [local irreducible] wpList wpListIn Calls
theorem own_tq {w : World} {B g : Nat} {v : Value} {xs : List Tk} {t : TypeId} {cs : Array Value} (h : OwnL kT 34 w B v xs) (q : Blk w g t cs) (ht : 34 ≠ t) : some g ≠ v.ownBlock := fun e => OwnL.ne_blk h q ht e.symm
set_option maxRecDepth 100000 in
set_option maxHeartbeats 16000000 in
theorem rtasks_any (r k b wk : Int) (hk0 : -9223372036854775808 ≤ k) (hk1 : k ≤ 9223372036854775807) (w : World) :
    Calls Tryd.prog 10 #[.agg #[.int .i64 r, .int .i64 k, .int .i64 b, .int .i64 wk]] w fun e w' => ∃ A n c, e = .returned (.slice A n c) ∧ Hid ((tasksT (inN r k b wk) (mpN r k b wk) (mN r k b wk) (tN r k b wk)).length = n) ∧ OwnL kT 34 w' w.heap.size (.slice A n c) (tasksT (inN r k b wk) (mpN r k b wk) (mN r k b wk) (tN r k b wk)) ∧ Below w.heap.size w w' := by
  have h := job_of (r := r) (b := b) (wk := wk) hk0 hk1
  have HB := Lib.hid (fun (W : World) => rblocks_any r k b wk W)
  generalize inN r k b wk = I at *
  generalize mpN r k b wk = mp at *
  generalize mN r k b wk = M at *
  generalize tN r k b wk = T at *
  have hM32 := h.m32
  have hI32 := h.i32
  have hmp := h.le
  have HS := Lib.hid (fun (kd : Int) (hkd : kd = 3 ∨ kd = 5) (W : World) => rsorts_any kd hkd k I mp M T h W)
  have HSW := Lib.hid (fun (kd : Int) (hkd : kd = 3 ∨ kd = 5) t (ht : t ∈ sortsT kd M T) => (sorts_b h hkd ht).wf)
  have HSL := Lib.hid (fun (kd : Int) => show (sortsT kd M T).length ≤ 240 by
    rw [sorts_len h kd T (Nat.le_refl _)]
    have h15 := h.t15
    have : T * (M / 2) ≤ 15 * 16 := Nat.mul_le_mul h15 (by omega)
    omega)
  have HKI := Lib.hid (show IntKind.i64.wrap ((I : Int) * k) = (mp : Int) by rw [Int.mul_comm]; exact mul_i64 h)
  clear h hk0 hk1
  go_enter Tryd.func10, Tryd.ntmps10
  go_wp2_with (first
    | (refine wpList_box_blk (w := w) rfl 23 _ rfl _ rfl ?_; intro u1 qu1 gu1 zu1; have b1 : Below w.heap.size w u1 := (Below.refl _ w).grown gu1 (Nat.le_refl _) (by simp))
    | (refine wpList_load_blk (w := u1) rfl 23 _ rfl (w.heap.size) 4 rfl 23 _ qu1 _ Tryd.underlying23 rfl (by kernel_rfl) rfl ?_))
  refine (HB.out u1).mono ?_
  rintro e u2 ⟨rfl, b2⟩
  have qp0 := qu1.after b2
  have bw0 := b1.trans (b2.mono b1.size)
  have hl0 : OwnL kT 34 u2 w.heap.size (.slice none 0 0) ([] ++ (List.range 0).map (oneT 1)) := OwnL.nil _ _ _ _
  have HL1 : Hid (([] : List Tk).length ≤ 0) := Lib.hid (by simp)
  clear b1 b2 gu1 zu1 qu1 HB
  go_wp2_with fail
  go_loopw [5, 6] (fun v i wr => ∃ m : Nat, m ≤ I ∧ i = .int .i64 (m : Int) ∧ OwnL kT 34 wr w.heap.size v ([] ++ (List.range m).map (oneT 1)) ∧ Blk wr w.heap.size 23 #[.int .i64 r, .int .i64 k, .int .i64 b, .int .i64 wk] ∧ Below w.heap.size w wr) (fun _ i _ => (I : Nat) - (intOf i).toNat)
  case atStart => exact ⟨0, by omega, rfl, hl0, qp0, bw0⟩
  case round =>
    clear hl0 qp0 bw0
    obtain ⟨m, hm, rfl, hl, qp, bw⟩ := hrel
    obtain ⟨A2, n2, c2, rfl, hn2, _, _⟩ := hl.form2
    have HN2 := hn2
    have hwz := bw.size
    by_cases hlt : m < I
    · have hlt' : (m : Int) < (I : Int) := by omega
      have hadd : IntKind.i64.wrap ((m : Int) + 1) = (m : Int) + 1 := by rw [IntKind.wrap_i64]; omega
      have wf1 : ∀ t ∈ [(⟨1, 0, (m : Int), 0, false⟩ : Tk)], t.wf := fun t ht => by
        rw [List.mem_singleton] at ht
        subst ht
        exact ⟨lit_wf (by simp only; omega) (by simp only; omega), lit_wf (by simp only; omega) (by simp only; omega), lit_wf (by simp only; omega) (by simp only; omega), lit_wf (by simp only; omega) (by simp only; omega)⟩
      have HST := Lib.hid (show (List.range (m + 1)).map (oneT 1) = (List.range m).map (oneT 1) ++ [⟨1, 0, (m : Int), 0, false⟩] by
        rw [List.range_succ, List.map_append]
        simp [oneT])
      have hn1 : n2 ≤ 2000 := by
        have h1 := HN2.out
        have h2 := HL1.out
        rw [List.length_append, List.length_map, List.length_range] at h1
        omega
      clear hn2
      go_wp2_with (first
        | (refine wpList_build_blk rfl 34 #[_, _] rfl #[.int .i64 1, .int .i64 0, .int .i64 (m : Int), .int .i64 0, .bool false] (by kernel_rfl) ?_)
        | (refine wpList_build_lst (k := kT) (w := wr) rfl 28 34 1 _ rfl Tryd.underlying28 _ 40 info_task rfl [⟨1, 0, (m : Int), 0, false⟩] rfl (by kernel_rfl) (by omega) (by decide) ?_; intro u5 qu5 gu5 zu5; have o5 := hl.kept gu5 (by cases (Value.slice A2 n2 c2).ownBlock <;> simp); have l5 : Lst kT u5 u5.heap.size (some ⟨wr.heap.size, 0, none⟩) 1 [⟨1, 0, (m : Int), 0, false⟩] := lst_whole qu5 rfl wf1)
        | (at_builtin; refine wpList_append_lst (k := kT) (w := u5) rfl _ _ 28 34 rfl Tryd.underlying28 _ 40 info_task rfl w.heap.size u5.heap.size wr.heap.size 0 1 1 (.slice A2 n2 c2) _ [⟨1, 0, (m : Int), 0, false⟩] rfl rfl o5 l5 (by rw [HN2.out]; omega) (by omega) (by have := gu5.size; omega) ?_; intro v6 u6 o6 g6 n6))
      obtain ⟨A6, n6', c6, rfl, _⟩ := o6.form2
      have qp5 := qp.grown gu5 (by simp)
      go_roundw
      case rel => exact ⟨m + 1, by omega, by go_num, by rw [HST.out, ← List.append_assoc]; exact o6, qp5.grown g6 (own_tq o5 qp5 (by decide)), (bw.grown gu5 hwz (by simp)).grown g6 (by have := gu5.size; omega) (fun r e => (o5.lt r e).1)⟩
      case measure => simp [intOf]; omega
    · obtain rfl : I = m := by omega
      have hlt' : ¬ (I : Int) < (I : Int) := by omega
      have ck := qp.cell (i := 1) rfl
      rw [List.nil_append] at hl HN2
      obtain ⟨L1, hL1⟩ : ∃ L1, (List.range I).map (oneT 1) = L1 := ⟨_, rfl⟩
      have HLL1 := Lib.hid hL1
      have HL2 : Hid (L1.length ≤ 32) := Lib.hid (by rw [← hL1]; simp; omega)
      rw [hL1] at hl HN2
      have hl0 : OwnL kT 34 wr w.heap.size (.slice A2 n2 c2) (L1 ++ (List.range 0).map (fun i => oneT 2 (mp + i))) := by simpa using hl
      have qp0 := qp
      have bw0 := bw
      clear hl qp bw hn2 hL1 hlt hlt' HL1
      go_wp2_with (first
        | (refine wpList_fld0 (w := wr) rfl rfl rfl Tryd.underlying23 rfl (by kernel_rfl) ?_)
        | (refine Held.wpList_run (w := wr) rfl (v := .int .i64 (mp : Int)) (Held.y_int (S := fun _ => True) (a := (I : Int)) (b := k) rfl rfl rfl (Held.run_mul 3 .i64 HKI.out) _ trivial) ?_))
      clear ck
      obtain ⟨wv, hwv⟩ : ∃ wv, wr = wv := ⟨_, rfl⟩
      rw [hwv] at hl0 qp0 bw0 ⊢
      clear hwv
      go_loopw [5, 7] (fun v i wr => ∃ m : Nat, m ≤ (M - mp) ∧ i = .int .i64 ((mp : Int) + (m : Int)) ∧ OwnL kT 34 wr w.heap.size v (L1 ++ (List.range m).map (fun i => oneT 2 (mp + i))) ∧ Blk wr w.heap.size 23 #[.int .i64 r, .int .i64 k, .int .i64 b, .int .i64 wk] ∧ Below w.heap.size w wr) (fun _ i _ => (M : Nat) - (intOf i).toNat)
      case atStart => exact ⟨0, by omega, by simp, hl0, qp0, bw0⟩
      case round =>
        clear hl0 qp0 bw0
        obtain ⟨m, hm, rfl, hl, qp, bw⟩ := hrel
        obtain ⟨A2, n2, c2, rfl, hn2, _, _⟩ := hl.form2
        have HN2 := hn2
        have hwz := bw.size
        by_cases hlt : m < (M - mp)
        · have hlt' : ((mp : Int) + (m : Int)) < (M : Int) := by omega
          have hadd : IntKind.i64.wrap (((mp : Int) + (m : Int)) + 1) = ((mp : Int) + (m : Int)) + 1 := by rw [IntKind.wrap_i64]; omega
          have wf1 : ∀ t ∈ [(⟨2, 0, ((mp : Int) + (m : Int)), 0, false⟩ : Tk)], t.wf := fun t ht => by
            rw [List.mem_singleton] at ht
            subst ht
            exact ⟨lit_wf (by simp only; omega) (by simp only; omega), lit_wf (by simp only; omega) (by simp only; omega), lit_wf (by simp only; omega) (by simp only; omega), lit_wf (by simp only; omega) (by simp only; omega)⟩
          have HST := Lib.hid (show (List.range (m + 1)).map (fun i => oneT 2 (mp + i)) = (List.range m).map (fun i => oneT 2 (mp + i)) ++ [⟨2, 0, ((mp : Int) + (m : Int)), 0, false⟩] by
            rw [List.range_succ, List.map_append]
            simp [oneT])
          have hn1 : n2 ≤ 2000 := by
            have h1 := HN2.out
            have h2 := HL2.out
            rw [List.length_append, List.length_map, List.length_range] at h1
            omega
          clear hn2
          go_wp2_with (first
            | (refine wpList_build_blk rfl 34 #[_, _] rfl #[.int .i64 2, .int .i64 0, .int .i64 ((mp : Int) + (m : Int)), .int .i64 0, .bool false] (by kernel_rfl) ?_)
            | (refine wpList_build_lst (k := kT) (w := wr) rfl 28 34 1 _ rfl Tryd.underlying28 _ 40 info_task rfl [⟨2, 0, ((mp : Int) + (m : Int)), 0, false⟩] rfl (by kernel_rfl) (by omega) (by decide) ?_; intro u5 qu5 gu5 zu5; have o5 := hl.kept gu5 (by cases (Value.slice A2 n2 c2).ownBlock <;> simp); have l5 : Lst kT u5 u5.heap.size (some ⟨wr.heap.size, 0, none⟩) 1 [⟨2, 0, ((mp : Int) + (m : Int)), 0, false⟩] := lst_whole qu5 rfl wf1)
            | (at_builtin; refine wpList_append_lst (k := kT) (w := u5) rfl _ _ 28 34 rfl Tryd.underlying28 _ 40 info_task rfl w.heap.size u5.heap.size wr.heap.size 0 1 1 (.slice A2 n2 c2) _ [⟨2, 0, ((mp : Int) + (m : Int)), 0, false⟩] rfl rfl o5 l5 (by rw [HN2.out]; omega) (by omega) (by have := gu5.size; omega) ?_; intro v6 u6 o6 g6 n6))
          obtain ⟨A6, n6', c6, rfl, _⟩ := o6.form2
          have qp5 := qp.grown gu5 (by simp)
          go_roundw
          case rel => exact ⟨m + 1, by omega, by go_num, by rw [HST.out, ← List.append_assoc]; exact o6, qp5.grown g6 (own_tq o5 qp5 (by decide)), (bw.grown gu5 hwz (by simp)).grown g6 (by have := gu5.size; omega) (fun r e => (o5.lt r e).1)⟩
          case measure => simp [intOf]; omega
        · obtain rfl : (M - mp) = m := by omega
          have hlt' : ¬ ((mp : Int) + ((M - mp : Nat) : Int)) < (M : Int) := by omega
          obtain ⟨L2, hL2⟩ : ∃ L2, L1 ++ (List.range (M - mp)).map (fun i => oneT 2 (mp + i)) = L2 := ⟨_, rfl⟩
          have HLL2 := Lib.hid hL2
          have HL3 : Hid (L2.length ≤ 64) := Lib.hid (by rw [← hL2]; have := HL2.out; simp; omega)
          rw [hL2] at hl HN2
          clear hn2 hL2 hlt hlt'
          go_wp2_with fail
          refine (HS.out 3 (.inl rfl) wr).mono ?_
          rintro e w2 ⟨As, ns, cs, rfl, hns, os, b2⟩
          have hl2 := hl.below b2
          have qp2 := qp.after b2
          have bw2 := bw.trans (b2.mono hwz)
          have ls : Lst kT w2 w2.heap.size As ns (sortsT 3 M T) := OwnL.lst os (fun t ht => HSW.out 3 (.inl rfl) t ht)
          have hns2 : ns ≤ 240 := by have := hns.out; have := HSL.out 3; omega
          have hwz2 := bw2.size
          clear hl qp bw b2
          go_wp2_with (first
            | (at_builtin; refine Mg.wpList_append_all (k := kT) (w := w2) rfl _ _ 28 34 rfl Tryd.underlying28 _ 40 info_task rfl w.heap.size w2.heap.size ns cs As (.slice A2 n2 c2) L2 (sortsT 3 M T) rfl rfl hl2 ls (by have := HL3.out; omega) (by omega) hwz2 ?_; intro v3 w3 o3 g3 n3))
          obtain ⟨L3, hL3⟩ : ∃ L3, L2 ++ sortsT 3 M T = L3 := ⟨_, rfl⟩
          have HLL3 := Lib.hid hL3
          have HL4 : Hid (L3.length ≤ 320) := Lib.hid (by rw [← hL3]; have := HL3.out; have := HSL.out 3; rw [List.length_append]; omega)
          rw [hL3] at o3
          have hl0 : OwnL kT 34 w3 w.heap.size v3 (L3 ++ (List.range 0).map (oneT 4)) := by simpa using o3
          have qp0 := qp2.grown g3 (own_tq hl2 qp2 (by decide))
          have bw0 := bw2.grown g3 hwz2 (fun r e => (hl2.lt r e).1)
          obtain ⟨A3, n3', c3, rfl, _⟩ := o3.form2
          clear o3 g3 n3 hl2 qp2 bw2 ls os hns hL3
          go_loopw [5, 8] (fun v i wr => ∃ m : Nat, m ≤ M ∧ i = .int .i64 (m : Int) ∧ OwnL kT 34 wr w.heap.size v (L3 ++ (List.range m).map (oneT 4)) ∧ Blk wr w.heap.size 23 #[.int .i64 r, .int .i64 k, .int .i64 b, .int .i64 wk] ∧ Below w.heap.size w wr) (fun _ i _ => (M : Nat) - (intOf i).toNat)
          case atStart => exact ⟨0, by omega, rfl, hl0, qp0, bw0⟩
          case round =>
            clear hl0 qp0 bw0
            obtain ⟨m, hm, rfl, hl, qp, bw⟩ := hrel
            obtain ⟨A2, n2, c2, rfl, hn2, _, _⟩ := hl.form2
            have HN2 := hn2
            have hwz := bw.size
            by_cases hlt : m < M
            · have hlt' : (m : Int) < (M : Int) := by omega
              have hadd : IntKind.i64.wrap ((m : Int) + 1) = (m : Int) + 1 := by rw [IntKind.wrap_i64]; omega
              have wf1 : ∀ t ∈ [(⟨4, 0, (m : Int), 0, false⟩ : Tk)], t.wf := fun t ht => by
                rw [List.mem_singleton] at ht
                subst ht
                exact ⟨lit_wf (by simp only; omega) (by simp only; omega), lit_wf (by simp only; omega) (by simp only; omega), lit_wf (by simp only; omega) (by simp only; omega), lit_wf (by simp only; omega) (by simp only; omega)⟩
              have HST := Lib.hid (show (List.range (m + 1)).map (oneT 4) = (List.range m).map (oneT 4) ++ [⟨4, 0, (m : Int), 0, false⟩] by
                rw [List.range_succ, List.map_append]
                simp [oneT])
              have hn1 : n2 ≤ 2000 := by
                have h1 := HN2.out
                have h2 := HL4.out
                rw [List.length_append, List.length_map, List.length_range] at h1
                omega
              clear hn2
              go_wp2_with (first
                | (refine wpList_build_blk rfl 34 #[_, _] rfl #[.int .i64 4, .int .i64 0, .int .i64 (m : Int), .int .i64 0, .bool false] (by kernel_rfl) ?_)
                | (refine wpList_build_lst (k := kT) (w := wr) rfl 28 34 1 _ rfl Tryd.underlying28 _ 40 info_task rfl [⟨4, 0, (m : Int), 0, false⟩] rfl (by kernel_rfl) (by omega) (by decide) ?_; intro u5 qu5 gu5 zu5; have o5 := hl.kept gu5 (by cases (Value.slice A2 n2 c2).ownBlock <;> simp); have l5 : Lst kT u5 u5.heap.size (some ⟨wr.heap.size, 0, none⟩) 1 [⟨4, 0, (m : Int), 0, false⟩] := lst_whole qu5 rfl wf1)
                | (at_builtin; refine wpList_append_lst (k := kT) (w := u5) rfl _ _ 28 34 rfl Tryd.underlying28 _ 40 info_task rfl w.heap.size u5.heap.size wr.heap.size 0 1 1 (.slice A2 n2 c2) _ [⟨4, 0, (m : Int), 0, false⟩] rfl rfl o5 l5 (by rw [HN2.out]; omega) (by omega) (by have := gu5.size; omega) ?_; intro v6 u6 o6 g6 n6))
              obtain ⟨A6, n6', c6, rfl, _⟩ := o6.form2
              have qp5 := qp.grown gu5 (by simp)
              go_roundw
              case rel => exact ⟨m + 1, by omega, by go_num, by rw [HST.out, ← List.append_assoc]; exact o6, qp5.grown g6 (own_tq o5 qp5 (by decide)), (bw.grown gu5 hwz (by simp)).grown g6 (by have := gu5.size; omega) (fun r e => (o5.lt r e).1)⟩
              case measure => simp [intOf]; omega
            · obtain rfl : M = m := by omega
              have hlt' : ¬ (M : Int) < (M : Int) := by omega
              obtain ⟨L4, hL4⟩ : ∃ L4, L3 ++ (List.range M).map (oneT 4) = L4 := ⟨_, rfl⟩
              have HLL4 := Lib.hid hL4
              have HL5 : Hid (L4.length ≤ 360) := Lib.hid (by rw [← hL4]; have := HL4.out; simp; omega)
              rw [hL4] at hl HN2
              clear hn2 hL4 hlt hlt'
              go_wp2_with fail
              refine (HS.out 5 (.inr rfl) wr).mono ?_
              rintro e w2 ⟨As, ns, cs, rfl, hns, os, b2⟩
              have hl2 := hl.below b2
              have bw2 := bw.trans (b2.mono hwz)
              have ls : Lst kT w2 w2.heap.size As ns (sortsT 5 M T) := OwnL.lst os (fun t ht => HSW.out 5 (.inr rfl) t ht)
              have hns2 : ns ≤ 240 := by have := hns.out; have := HSL.out 5; omega
              have hwz2 := bw2.size
              clear hl qp bw b2
              go_wp2_with (first
                | (at_builtin; refine Mg.wpList_append_all (k := kT) (w := w2) rfl _ _ 28 34 rfl Tryd.underlying28 _ 40 info_task rfl w.heap.size w2.heap.size ns cs As (.slice A2 n2 c2) L4 (sortsT 5 M T) rfl rfl hl2 ls (by have := HL5.out; omega) (by omega) hwz2 ?_; intro v3 w3 o3 g3 n3))
              have HTT := Lib.hid (show L4 ++ sortsT 5 M T = tasksT I mp M T by rw [← HLL4.out, ← HLL3.out, ← HLL2.out, ← HLL1.out]; rfl)
              rw [HTT.out] at o3
              obtain ⟨A3, n3', c3, rfl, hn3, _⟩ := o3.form2
              go_ret
              exact ⟨_, _, _, rfl, hn3, o3, bw2.grown g3 hwz2 (fun r e => (hl2.lt r e).1)⟩
end Go.Proofs.YtipmfficjomcoaaDoor.Sh
