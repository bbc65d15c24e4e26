/-
  Package shape's iterator over the tasks of a round of the network, and its functions that tell the iterators over a group's tasks, by their contracts.
  Package shape's Tasks: which iterator each group has, and the iterator over all tasks, by their contracts.
-/
import Derived.Test.YtipmfficjomcoaaDoorB8
set_option linter.unusedVariables false
namespace Go.Proofs.YtipmfficjomcoaaDoor.Sh
open Go.RowKit Go.Shelf Mem Held Go.Proofs.YtipmfficjomcoaaDoor.Range Sl
attribute [local go_sem] Oper.semAt_some
attribute [local irreducible] wpList wpListIn Calls
theorem round_wide {r : Option Nat} {n m : Nat} {P : Program} {l : Nat} {f : FuncId} {tmps : Array Value} {assign body : Code} {w : World} {R : Ending → World → Prop} (h : RoundIn Fence.wide n P l f tmps assign body w R) : RoundIn (Held.wideR r) m P l f tmps assign body w R :=
  ⟨trivial, fun c cs _ => h.2 c cs (by simp [Fence.room, Fence.wide])⟩
theorem firsts_lt {d M x : Nat} {k : Nat} (h : (Net.firsts d M)[k]? = some x) : x < M := by
  have := List.mem_of_getElem? h
  unfold Net.firsts at this
  have := (List.mem_filter.1 this).1
  simpa using this
theorem atG_pair {mp M r sz fi : Nat} {kd : Int} {k x : Nat} (h : (Net.firsts (2 ^ ((stT r).2 - 1)) M)[k]? = some x) : atG mp M ⟨kd, (r : Int) + 1, sz, fi⟩ k = some (fi + k, pairT kd M r x) := by
  unfold atG tkOf
  rw [if_neg (by simp only; omega)]
  simp only [roundT, show ((r : Int) + 1 - 1).toNat = r by omega, List.getElem?_map, h]
  rfl
theorem atG_none {mp M r sz fi : Nat} {kd : Int} {k : Nat} (h : (Net.firsts (2 ^ ((stT r).2 - 1)) M)[k]? = none) : atG mp M ⟨kd, (r : Int) + 1, sz, fi⟩ k = none := by
  unfold atG tkOf
  rw [if_neg (by simp only; omega)]
  simp only [roundT, show ((r : Int) + 1 - 1).toNat = r by omega, List.getElem?_map, h]
  rfl
set_option maxRecDepth 100000 in
set_option maxHeartbeats 8000000 in
theorem pairs_p (N bg bj : Nat) (K : Int) (I mp M T r sz fi : Nat) (kd : Int) (h : JobP K I mp M T) (hN : 1 ≤ N) (w : World) (q : Blk w bj 62 #[.int .i64 K, .int .i64 (I : Int), .int .i64 (M : Int)]) (qg : Blk w bg 68 #[.int .i64 kd, .int .i64 ((r : Int) + 1), .int .i64 (sz : Int), .int .i64 (fi : Int)]) (hT : Bi.TzT w) (hr : r < T) (hf : fi ≤ 2000) :
    SeqP Fence.wide N Tryd.prog 68 #[.pointer (some ⟨bg, 0, none⟩), .pointer (some ⟨bj, 0, none⟩)] (fun b => b = bg ∨ b = bj ∨ b = 1) encT (atG mp M ⟨kd, (r : Int) + 1, sz, fi⟩) w := by
  intro l J Jx W hW hJ hJx hY h0
  have hT0 := hT.below hW hT.lt
  have qj := q.after hW
  have qg := qg.after hW
  have hM32 := h.m32
  have hT15 := h.t15
  have hF := h.round hr
  obtain ⟨dd, hdd⟩ : ∃ dd : Int, (2 : Int) ^ ((stT r).2 - 1) = dd := ⟨_, rfl⟩
  obtain ⟨UV, hUV⟩ : ∃ UV : Nat → Bool, (fun x : Nat => Bi.upV M (stT r).1 (stT r).2 true (x : Int)) = UV := ⟨_, rfl⟩
  have HUP := Lib.hid (fun (x : Nat) (X : World) (hx : x < M) (hT : Bi.TzT X) => Bi.up_any (M : Int) (r : Int) (x : Int) _ _ _ true X (by omega) (by omega) (by omega) (by omega) hT rfl hF)
  have hu : ∀ x : Nat, Bi.upV M (stT r).1 (stT r).2 true (x : Int) = UV x := fun x => congrFun hUV x
  have HE := Lib.hid (fun (k x : Nat) => show encT (fi + k, pairT kd M r x) = #[.int .i64 ((fi + k : Nat) : Int), .agg #[.int .i64 kd, .int .i64 ((r : Int) + 1), .int .i64 (x : Int), .int .i64 ((x : Int) + dd), .bool (UV x)]] by
    unfold encT tkV pairT
    simp only [hdd, hu])
  simp only [hu] at HUP
  have HRD := Lib.hid (fun (b1 b2 : Nat) (X : World) (hT : Bi.TzT X) (q1 : Blk X b1 3 #[.int .i64 (M : Int)]) (q2 : Blk X b2 3 #[.int .i64 (r : Int)]) => round_p (N - 1) b1 b2 (M : Int) (r : Int) _ _ X (by omega) (by omega) hT hF q1 q2)
  rw [hdd] at HRD
  simp only [show ((M : Int)).toNat = M by omega] at HRD
  obtain ⟨fs, hfs⟩ : ∃ fs : List Nat, Net.firsts (2 ^ ((stT r).2 - 1)) M = fs := ⟨_, rfl⟩
  have HLT := Lib.hid (fun (k x : Nat) (hk : fs[k]? = some x) => show x < M from firsts_lt (by rw [hfs]; exact hk))
  have HY := Lib.hid (fun (pv : Nat → Prop) (k x : Nat) (W1 : World) (hk : fs[k]? = some x) (hJk : J pv k W1) => hY pv k (fi + k, pairT kd M r x) W1 hJk (atG_pair (by rw [hfs]; exact hk)))
  have HEN := Lib.hid (fun (k : Nat) (hk : fs[k]? = none) => show atG mp M ⟨kd, (r : Int) + 1, sz, fi⟩ k = none from atG_none (by rw [hfs]; exact hk))
  have HKL := Lib.hid (fun (k x : Nat) (hk : fs[k]? = some x) => show k ≤ 32 by
    have h1 := (List.getElem?_eq_some_iff.1 hk).1
    have h2 : fs.length ≤ M := by rw [← hfs]; exact Bi.firsts_length_le _ _
    omega)
  simp only [HE.out] at HY
  rw [hfs] at HRD
  clear hY h hW HE hF hdd hUV hu hfs q
  refine callsIn_of_wp_marks Tryd.func68 rfl trivial ?_ rfl
  simp only [Tryd.ntmps68, List.size_toArray, List.length_cons, List.length_nil, Nat.reduceAdd, Nat.reduceSub, Array.replicate_succ, Array.replicate_zero, List.push_toArray, List.append_toArray, List.nil_append, List.cons_append]
  have cg1 := qg.cell (i := 1) rfl
  have hsub : IntKind.i64.wrap ((r : Int) + 1 - 1) = (r : Int) := by rw [IntKind.wrap_i64]; omega
  have HS := Lib.hid hsub
  clear hsub
  gi_wp2_with (first
    | (refine Held.wpListIn_one (r := none) rfl (by intro c e; cases e) ?_; refine Held.wpList_box_cell (w := W) rfl 60 _ rfl (.func (.yield l) #[] #[]) rfl rfl ?_; intro u1 q1 g1 z1; have q1 : Blk u1 W.heap.size 60 #[.func (.yield l) #[] #[]] := q1; have b1 : Below W.heap.size W u1 := (Below.refl _ W).grown g1 (Nat.le_refl _) (by simp); have qg1 := qg.after b1; have cg1 := qg1.cell (i := 1) rfl; refine wpList_nil ⟨rfl, ?_⟩)
    | (refine Held.wpListIn_one (r := none) rfl (by intro c e; cases e) ?_; refine wpList_fld0 (w := u1) rfl rfl rfl Tryd.underlying68 rfl (by kernel_rfl) ?_; refine wpList_nil ⟨rfl, ?_⟩)
    | (refine Held.wpListIn_one (r := none) rfl (by intro c e; cases e) ?_; refine Held.wpList_run (w := u1) rfl (v := .int .i64 (r : Int)) (Bi.y_sub (S := fun _ => True) ((r : Int) + 1) 1 rfl rfl rfl HS.out _ trivial) ?_; refine wpList_nil ⟨rfl, ?_⟩)
    | (refine Held.wpListIn_one (r := none) rfl (by intro c e; cases e) ?_; refine Held.wpList_alloc_cell (w := u1) rfl 3 rfl (.int .i64 0) (by kernel_rfl) rfl ?_; intro u2 q2 g2 z2; refine wpList_nil ⟨rfl, ?_⟩)
    | (refine Held.wpListIn_one (r := none) rfl (by intro c e; cases e) ?_; refine Held.wpList_store_box (w := u2) rfl 3 _ _ rfl u1.heap.size rfl 3 _ (.int .i64 (r : Int)) rfl q2 (by kernel_rfl) rfl rfl ?_; intro u3 q3 g3; have q3 : Blk u3 u1.heap.size 3 #[.int .i64 (r : Int)] := q3; have b3 : Below u1.heap.size u1 u3 := ((Below.refl _ u1).grown g2 (Nat.le_refl _) (by simp)).grown g3 g2.size (fun r e => by cases e; exact Nat.le_refl _); have qg3 := qg1.after b3; have cg3 := qg3.cell (i := 3) rfl; refine wpList_nil ⟨rfl, ?_⟩)
    | (refine Held.wpListIn_one (r := none) rfl (by intro c e; cases e) ?_; refine wpList_fld0 (w := u3) rfl rfl rfl Tryd.underlying68 rfl (by kernel_rfl) ?_; refine wpList_nil ⟨rfl, ?_⟩)
    | (refine Held.wpListIn_one (r := none) rfl (by intro c e; cases e) ?_; refine Held.wpList_alloc_cell (w := u3) rfl 3 rfl (.int .i64 0) (by kernel_rfl) rfl ?_; intro u4 q4 g4 z4; refine wpList_nil ⟨rfl, ?_⟩)
    | (refine Held.wpListIn_one (r := none) rfl (by intro c e; cases e) ?_; refine Held.wpList_store_box (w := u4) rfl 3 _ _ rfl u3.heap.size rfl 3 _ (.int .i64 (fi : Int)) rfl q4 (by kernel_rfl) rfl rfl ?_; intro u5 q5 g5; have q5 : Blk u5 u3.heap.size 3 #[.int .i64 (fi : Int)] := q5; have b5 : Below u3.heap.size u3 u5 := ((Below.refl _ u3).grown g4 (Nat.le_refl _) (by simp)).grown g5 g4.size (fun r e => by cases e; exact Nat.le_refl _); have bb : Below W.heap.size W u5 := b1.trans ((b3.mono b1.size).trans (b5.mono (Nat.le_trans b1.size b3.size))); have qj5 := qj.after bb; have cj5 := qj5.cell (i := 2) rfl; have qr5 := q3.after b5; have cr5 := qr5.cell (i := 0) rfl; refine wpList_nil ⟨rfl, ?_⟩)
    | (refine Held.wpListIn_one (r := none) rfl (by intro c e; cases e) ?_; refine wpList_fld0 (w := u5) rfl rfl rfl Tryd.underlying62 rfl (by kernel_rfl) ?_; refine wpList_nil ⟨rfl, ?_⟩))
  refine ⟨trivial, ?_⟩
  refine (callsIn_wide.2 (Bi.round_any (M : Int) (r : Int) u5)).mono ?_
  rintro e u6 ⟨d1, d2, rfl, qd1, qd2, hd1, hd2, b6⟩
  have qy6 := (q1.after (b3.trans (b5.mono b3.size))).after b6
  have qr6 := qr5.after b6
  have qn6 := q5.after b6
  have b7 := bb.trans (b6.mono bb.size)
  have qg6 := qg.after b7
  have qj6 := qj.after b7
  have hT6 := hT0.below b7 hT0.lt
  have J6 := hJ.all h0 b7
  have lgj : bg < W.heap.size ∧ bj < W.heap.size ∧ 1 < W.heap.size := ⟨qg.lt, qj.lt, hT0.lt⟩
  have ly : W.heap.size < u1.heap.size := q1.lt
  have lr : u1.heap.size < u3.heap.size := q3.lt
  have ln : u3.heap.size < u5.heap.size := q5.lt
  have l56 := b6.size
  have l76 := b7.size
  have hit := HRD.out d1 d2 u6 hT6 qd1 qd2
  generalize hby : W.heap.size = by_ at *
  generalize hbr : u1.heap.size = br at *
  generalize hbn : u3.heap.size = bn at *
  clear b1 b3 b5 bb b6 b7 qg1 cg1 qg3 cg3 qj5 cj5 qr5 cr5 q1 q2 q3 q4 q5 g1 g2 g3 g4 g5 z1 z2 z4 h0 qg qj hT0 HRD HS hby hbr hbn
  gi_wp2_with fail
  refine wpIn_rangeFunc_p rfl hN (gf := 75) (lb := #[.pointer (some ⟨d1, 0, none⟩), .pointer (some ⟨d2, 0, none⟩)]) rfl trivial (enters_of Tryd.func75 (by kernel_rfl) rfl)
    hit (Below.refl _ _) (fun _ => rfl) (fun _ h => h.elim)
    (Inn J (fun b => b = by_ ∨ b = br ∨ b = bn) (fun b => b = bg ∨ b = bj ∨ b = 1) (fun k X => Blk X by_ 60 #[.func (.yield l) #[] #[]] ∧ Blk X br 3 #[.int .i64 (r : Int)] ∧ Blk X bn 3 #[.int .i64 ((fi + k : Nat) : Int)] ∧ Blk X bg 68 #[.int .i64 kd, .int .i64 ((r : Int) + 1), .int .i64 (sz : Int), .int .i64 (fi : Int)] ∧ Blk X bj 62 #[.int .i64 K, .int .i64 (I : Int), .int .i64 (M : Int)] ∧ Bi.TzT X) id)
    (fun c pv k X => c = .ret ∧ Out Jx pv k X) ?hI ?hIx ?h0
    (fun pv k x a' X => Inn J (fun b => b = by_ ∨ b = br ∨ b = bn) (fun b => b = bg ∨ b = bj ∨ b = 1) (fun k X => Blk X by_ 60 #[.func (.yield l) #[] #[]] ∧ Blk X br 3 #[.int .i64 (r : Int)] ∧ Blk X bn 3 #[.int .i64 ((fi + k : Nat) : Int)] ∧ Blk X bg 68 #[.int .i64 kd, .int .i64 ((r : Int) + 1), .int .i64 (sz : Int), .int .i64 (fi : Int)] ∧ Blk X bj 62 #[.int .i64 K, .int .i64 (I : Int), .int .i64 (M : Int)] ∧ Bi.TzT X) id pv k X ∧ a' = { tmps := #[.func (.yield l) #[] #[], .pointer (some ⟨bg, 0, none⟩), .pointer (some ⟨bj, 0, none⟩), .pointer (some ⟨by_, 0, none⟩), .pointer (some ⟨br, 0, none⟩), .pointer (some ⟨bn, 0, none⟩), .int .i64 (x : Int), .int .i64 ((x : Int) + dd), .pointer (some ⟨bg, 1, none⟩), .int .i64 ((r : Int) + 1), .int .i64 (r : Int), .pointer (some ⟨bg, 3, none⟩), .int .i64 (fi : Int), .pointer (some ⟨bj, 2, none⟩), .int .i64 (M : Int), .int .i64 (r : Int), .func (.func 75) #[] #[.pointer (some ⟨d1, 0, none⟩), .pointer (some ⟨d2, 0, none⟩)], .int .i64 (x : Int), .int .i64 ((x : Int) + dd), undef, undef, undef, undef, undef, undef, undef, undef, undef, undef, undef, undef, undef, undef, undef, undef, undef, undef], defers := [] }) ?hIb ?assign ?body ?done ?stop
  case hI =>
    refine stay_inn hJ ?_
    rintro k X X' ⟨a1, a2, a3, a4, a5, a6⟩ kp
    exact ⟨kp_blk kp a1 (by simp), kp_blk kp a2 (by simp), kp_blk kp a3 (by simp), kp_blk kp a4 (by simp), kp_blk kp a5 (by simp), kp_tz kp a6 (by simp)⟩
  case hIx => exact fun c => stay_and stay_const (stay_out hJx)
  case h0 =>
    refine inn_start J6 ?_ ?_ ⟨qy6, qr6, qn6, qg6, qj6, hT6⟩
    · intro b hb
      rcases hb with rfl | rfl | rfl <;> exact .inr ⟨by omega, by omega⟩
    · intro b hb
      rcases hb with (rfl | rfl | rfl) | (rfl | rfl | rfl) <;> omega
  case hIb =>
    rintro pv k x a' X X' b ⟨h1, h2⟩ hb hg
    refine ⟨(stay_inn hJ ?_).put _ _ _ _ _ h1 hb hg, h2⟩
    rintro k X X' ⟨a1, a2, a3, a4, a5, a6⟩ kp
    exact ⟨kp_blk kp a1 (by simp), kp_blk kp a2 (by simp), kp_blk kp a3 (by simp), kp_blk kp a4 (by simp), kp_blk kp a5 (by simp), kp_tz kp a6 (by simp)⟩
  case assign =>
    rintro l' pv k x X C hl' hI hat hC
    simp only [Held.zip_two, List.setIfInBounds_toArray, List.set_cons_zero, List.set_cons_succ]
    gi_wp2_with fail
    exact hC _ _ (KeepsP.refl _ _) ⟨hI, rfl⟩
  case body =>
    rintro l' pv k x a' X hl' - ⟨⟨pvo, p1, p2, p3, p4, p5, qy, qr, qn, qg, qj, hT0⟩, rfl⟩ hat
    have hxM := HLT.out k x hat
    have hk32 := HKL.out k x hat
    have c0 := (Below.refl X.heap.size X).drew
    have HYY := fun (W1 : World) (hb : Below X.heap.size X W1) => HY.out pvo k x W1 hat (hJ.below p2 hb)
    have cn := qn.cell (i := 0) rfl
    gi_wp2_with fail
    refine Held.wpIn_region_g (r := some l') (T := fun W => Below X.heap.size X W) (s := 14) rfl (by kernel_rfl) (by kernel_rfl) (fun a w h => h) ?_
    change Held.wpAnyG _ _ _ _ _ _ _ _ _ _ _ X.drew
    refine Held.takeG (v := .func (.yield l) #[] #[]) 0 (some 19) [14] rfl rfl (by kernel_rfl) (by kernel_rfl) (by kernel_rfl) (by kernel_rfl) (fun _ _ _ h => h) rfl (Held.y_load rfl rfl (by kernel_rfl) (fun W hW => (qy.after hW).cell (i := 0) rfl)) c0 ?_
    simp only [Act.put, Z1, Z2, Z3]
    refine Held.takeG (v := .int .i64 ((fi + k : Nat) : Int)) 1 (some 20) [14] rfl rfl (by kernel_rfl) (by kernel_rfl) (by kernel_rfl) (by kernel_rfl) (fun _ _ _ h => h) rfl (Held.y_load rfl rfl (by kernel_rfl) (fun W hW => (qn.after hW).cell (i := 0) rfl)) c0 ?_
    simp only [Act.put, Z1, Z2, Z3]
    refine Held.takeG (v := .pointer (some ⟨bg, 0, none⟩)) 2 (some 21) [3, 13, 14] rfl rfl (by kernel_rfl) (by kernel_rfl) (by kernel_rfl) (by kernel_rfl) (fun _ _ _ h => h) rfl (Held.y_field (k := 0) (s := 0) rfl rfl Tryd.underlying68 rfl (by kernel_rfl) rfl) c0 ?_
    simp only [Act.put, Z1, Z2, Z3]
    refine Held.takeG (v := .int .i64 kd) 3 (some 22) [13, 14] rfl rfl (by kernel_rfl) (by kernel_rfl) (by kernel_rfl) (by kernel_rfl) (fun _ _ _ h => h) rfl (Held.y_load rfl rfl (by kernel_rfl) (fun W hW => (qg.after hW).cell (i := 0) rfl)) c0 ?_
    simp only [Act.put, Z1, Z2, Z3]
    refine Held.takeG (v := .pointer (some ⟨bg, 1, none⟩)) 4 (some 23) [5, 13, 14] rfl rfl (by kernel_rfl) (by kernel_rfl) (by kernel_rfl) (by kernel_rfl) (fun _ _ _ h => h) rfl (Held.y_field (k := 1) (s := 0) rfl rfl Tryd.underlying68 rfl (by kernel_rfl) rfl) c0 ?_
    simp only [Act.put, Z1, Z2, Z3]
    refine Held.takeG (v := .int .i64 ((r : Int) + 1)) 5 (some 24) [13, 14] rfl rfl (by kernel_rfl) (by kernel_rfl) (by kernel_rfl) (by kernel_rfl) (fun _ _ _ h => h) rfl (Held.y_load rfl rfl (by kernel_rfl) (fun W hW => (qg.after hW).cell (i := 1) rfl)) c0 ?_
    simp only [Act.put, Z1, Z2, Z3]
    refine Held.takeG (v := .int .i64 (x : Int)) 6 (some 25) [13, 14] rfl rfl (by kernel_rfl) (by kernel_rfl) (by kernel_rfl) (by kernel_rfl) (fun _ _ _ h => h) rfl (Held.y_move rfl rfl) c0 ?_
    simp only [Act.put, Z1, Z2, Z3]
    refine Held.takeG (v := .int .i64 ((x : Int) + dd)) 7 (some 26) [13, 14] rfl rfl (by kernel_rfl) (by kernel_rfl) (by kernel_rfl) (by kernel_rfl) (fun _ _ _ h => h) rfl (Held.y_move rfl rfl) c0 ?_
    simp only [Act.put, Z1, Z2, Z3]
    refine Held.takeG (v := .pointer (some ⟨bj, 2, none⟩)) 8 (some 27) [9, 12, 13, 14] rfl rfl (by kernel_rfl) (by kernel_rfl) (by kernel_rfl) (by kernel_rfl) (fun _ _ _ h => h) rfl (Held.y_field (k := 2) (s := 0) rfl rfl Tryd.underlying62 rfl (by kernel_rfl) rfl) c0 ?_
    simp only [Act.put, Z1, Z2, Z3]
    refine Held.takeG (v := .int .i64 (M : Int)) 9 (some 28) [12, 13, 14] rfl rfl (by kernel_rfl) (by kernel_rfl) (by kernel_rfl) (by kernel_rfl) (fun _ _ _ h => h) rfl (Held.y_load rfl rfl (by kernel_rfl) (fun W hW => (qj.after hW).cell (i := 2) rfl)) c0 ?_
    simp only [Act.put, Z1, Z2, Z3]
    refine Held.takeG (v := .int .i64 (r : Int)) 10 (some 29) [12, 13, 14] rfl rfl (by kernel_rfl) (by kernel_rfl) (by kernel_rfl) (by kernel_rfl) (fun _ _ _ h => h) rfl (Held.y_load rfl rfl (by kernel_rfl) (fun W hW => (qr.after hW).cell (i := 0) rfl)) c0 ?_
    simp only [Act.put, Z1, Z2, Z3]
    refine Held.takeG (v := .int .i64 (x : Int)) 11 (some 30) [12, 13, 14] rfl rfl (by kernel_rfl) (by kernel_rfl) (by kernel_rfl) (by kernel_rfl) (fun _ _ _ h => h) rfl (Held.y_move rfl rfl) c0 ?_
    simp only [Act.put, Z1, Z2, Z3]
    refine Held.oneG 12 (by kernel_rfl) rfl ?_
    refine Held.op_call 12 (some 31) 70 #[.int .i64 (M : Int), .int .i64 (r : Int), .int .i64 (x : Int)] rfl rfl rfl rfl (enters_of Tryd.func70 (by kernel_rfl) rfl) (by simp [Act.eval]) (HUP.out x X.drew hxM (hT0.below (Below.refl X.heap.size X).drew hT0.lt)) ?_
    rintro e w1 ⟨rfl, rfl⟩
    refine ⟨_, rfl, c0, ?_⟩
    simp only [Act.put, Z1, Z2, Z3]
    refine Held.takeG (v := .agg #[.int .i64 kd, .int .i64 ((r : Int) + 1), .int .i64 (x : Int), .int .i64 ((x : Int) + dd), .bool (UV x)]) 13 (some 32) [14] rfl rfl (by kernel_rfl) (by kernel_rfl) (by kernel_rfl) (by kernel_rfl) (fun _ _ _ h => h) rfl (Held.y_build rfl (by kernel_rfl)) c0 ?_
    simp only [Act.put, Z1, Z2, Z3]
    refine Held.endG (by kernel_rfl) ?_
    refine Held.opIn_yield 14 (some 33) (r := some l') rfl #[.int .i64 ((fi + k : Nat) : Int), .agg #[.int .i64 kd, .int .i64 ((r : Int) + 1), .int .i64 (x : Int), .int .i64 ((x : Int) + dd), .bool (UV x)]] rfl rfl rfl rfl rfl (by simp [Act.eval]) (HYY X.drew c0) ?_
    rintro e X2 ⟨kp, hor⟩
    have hbool : ∃ bb : Bool, e = .returned (.bool bb) ∧ ((bb = true ∧ J _ (k + 1) X2) ∨ (bb = false ∧ Jx _ (k + 1) X2)) := hor.elim (fun h => ⟨true, h.1, .inl ⟨rfl, h.2⟩⟩) (fun h => ⟨false, h.1, .inr ⟨rfl, h.2⟩⟩)
    clear hor
    obtain ⟨bb, rfl, hor⟩ := hbool
    refine ⟨_, rfl, ?_⟩
    simp only [Act.put, Z1, Z2, Z3]
    refine Held.oneIn 15 (some 34) (r := some l') rfl (by kernel_rfl) (by kernel_rfl) (fun a w h => h) rfl rfl rfl (Held.y_not rfl rfl rfl) ?_
    simp only [Act.put, Z1, Z2, Z3]
    refine wpAnyIn_done (by kernel_rfl) ?_ _
    have kX : KeepsP (fun b => False ∨ pv b) X X2 := (KeepsP.of_below c0).trans (kp.less (fun b hb => .inr (p1 b (hb.elim (fun h => h.elim) id))))
    have ks : ∀ b, (b = by_ ∨ b = br ∨ b = bn) → ∀ o, X.heap[b]? = some o → X2.heap[b]? = some o := fun b hb o ho => kp.block b o (.inr (p3 b hb)) ((KeepsP.of_below (S := fun _ => True) c0).block b o trivial ho)
    have kn : ∀ b, (b = bg ∨ b = bj ∨ b = 1) → ∀ o, X.heap[b]? = some o → X2.heap[b]? = some o := fun b hb o ho => kp.block b o (.inl hb) ((KeepsP.of_below (S := fun _ => True) c0).block b o trivial ho)
    have qy2 : Blk X2 by_ 60 #[.func (.yield l) #[] #[]] := ks by_ (by simp) _ qy
    have qr2 : Blk X2 br 3 #[.int .i64 (r : Int)] := ks br (by simp) _ qr
    have qn2 : Blk X2 bn 3 #[.int .i64 ((fi + k : Nat) : Int)] := ks bn (by simp) _ qn
    have qg2 : Blk X2 bg 68 #[.int .i64 kd, .int .i64 ((r : Int) + 1), .int .i64 (sz : Int), .int .i64 (fi : Int)] := kn bg (.inl rfl) _ qg
    have qj2 : Blk X2 bj 62 #[.int .i64 K, .int .i64 (I : Int), .int .i64 (M : Int)] := kn bj (.inr (.inl rfl)) _ qj
    have hT2 : Bi.TzT X2 := by
      obtain ⟨t, fr, e⟩ := hT0
      exact ⟨t, fr, kn _ (.inr (.inr rfl)) _ e⟩
    have hsz : X.heap.size ≤ X2.heap.size := kX.size
    clear kp ks kn HYY qy qr qn qg qj hT0 cn HUP
    rcases hor with ⟨rfl, J2⟩ | ⟨rfl, x2⟩
    · have cn2 := qn2.cell (i := 0) rfl
      have hadd : IntKind.i64.wrap (((fi + k : Nat) : Int) + 1) = ((fi + (k + 1) : Nat) : Int) := by rw [IntKind.wrap_i64]; omega
      have HA := Lib.hid hadd
      have pn : ¬ pv bn := (p4 bn (by simp)).1
      have bo : pvo bn := p3 bn (by simp)
      clear hadd
      gi_wp2_with (first
        | (refine Held.wpListIn_one (r := some l') rfl (by intro c e; cases e) ?_; refine Held.wpList_run (w := X2) rfl (v := .int .i64 ((fi + (k + 1) : Nat) : Int)) (Held.y_int (S := fun _ => True) (a := ((fi + k : Nat) : Int)) (b := 1) rfl rfl rfl (Held.run_add 3 .i64 HA.out) _ trivial) ?_; refine wpList_nil ⟨rfl, ?_⟩)
        | (refine Held.wpListIn_one (r := some l') rfl (by intro c e; cases e) ?_; refine Held.wpList_store_box (w := X2) rfl 3 _ _ rfl bn rfl 3 _ (.int .i64 ((fi + (k + 1) : Nat) : Int)) rfl qn2 (by kernel_rfl) rfl rfl ?_; intro X3 q3 g3; refine wpList_nil ⟨rfl, ?_⟩))
      have ne : ∀ b : Nat, bn ≠ b → some b ≠ some bn := fun b hb e => by injection e with e; exact hb e.symm
      refine ⟨kX.trans (KeepsP.of_grown g3 (fun b e hb => by injection e with e; subst e; exact hb.elim (fun h => h) pn)), pvo, p1, hJ.put _ _ _ _ bn J2 bo g3, p3, fun b hb => ⟨(p4 b hb).1, by have := (p4 b hb).2; have := g3.size; omega⟩, fun b hb => by have := p5 b hb; have := g3.size; omega, qy2.grown g3 (ne _ (by omega)), qr2.grown g3 (ne _ (by omega)), q3, qg2.grown g3 (ne _ (by omega)), qj2.grown g3 (ne _ (by omega)), ?_⟩
      obtain ⟨t, fr, e⟩ := hT2
      exact ⟨t, fr, (g3.block _ (Array.getElem?_eq_some_iff.1 e).1 (ne _ (by omega))).trans e⟩
    · gi_wp2_with fail
      exact ⟨kX, rfl, pvo, _, p1, x2⟩
  case stop =>
    rintro D cc pv k X ⟨rfl, pvo, k', p1, x2⟩ hD hDh
    gi_wp2_with fail
    refine ⟨by simp, .inl ⟨_, _, rfl, run_takeDeferred hDh, ?_⟩⟩
    exact ⟨_, results_none rfl _ _ _, ⟨_, rfl⟩, .inr ⟨pvo, k', hJx.put _ _ _ _ D x2 (p1 D hD) (grownBy_putObj' _ _ _)⟩⟩
  case done =>
    rintro D pv k X hat ⟨pvo, p1, p2, -⟩ hD hDh
    gi_wp2_with fail
    refine ⟨by simp, .inl ⟨_, _, rfl, run_takeDeferred hDh, ?_⟩⟩
    exact ⟨_, results_none rfl _ _ _, ⟨_, rfl⟩, .inl ⟨pvo, k, HEN.out k hat, hJ.put _ _ _ _ D p2 (p1 D hD) (grownBy_putObj' _ _ _)⟩⟩
end Go.Proofs.YtipmfficjomcoaaDoor.Sh
namespace Go.Proofs.YtipmfficjomcoaaDoor.Sh
open Go.RowKit Go.Shelf Mem Held Go.Proofs.YtipmfficjomcoaaDoor.Range Sl
attribute [local go_sem] Oper.semAt_some
attribute [local irreducible] wpList wpListIn Calls
theorem grs_says {K : Int} {I mp M T k : Nat} {g : Gr} (h : JobP K I mp M T) (hg : (grs I mp M T)[k]? = some g) : (g.rd = 0 ∨ ∃ r : Nat, r < T ∧ g.rd = (r : Int) + 1) ∧ g.sz ≤ 32 ∧ g.fi ≤ 1000 ∧ 1 ≤ g.kd ∧ g.kd ≤ 5 := by
  have hm := List.mem_of_getElem? hg
  have : ∃ c i, 1 ≤ c ∧ c ≤ 5 ∧ i < nrK T c ∧ g = grK I mp M T c i := by
    unfold grs grsK at hm
    simp only [List.mem_append, List.mem_map, List.mem_range] at hm
    rcases hm with (((⟨i, hi, rfl⟩ | ⟨i, hi, rfl⟩) | ⟨i, hi, rfl⟩) | ⟨i, hi, rfl⟩) | ⟨i, hi, rfl⟩
    · exact ⟨1, i, by omega, by omega, hi, rfl⟩
    · exact ⟨2, i, by omega, by omega, hi, rfl⟩
    · exact ⟨3, i, by omega, by omega, hi, rfl⟩
    · exact ⟨4, i, by omega, by omega, hi, rfl⟩
    · exact ⟨5, i, by omega, by omega, hi, rfl⟩
  obtain ⟨c, i, h1, h5, hi, rfl⟩ := this
  refine ⟨?_, sz_le h c, ?_, by show (1 : Int) ≤ (c : Int); omega, by show (c : Int) ≤ 5; omega⟩
  · show ((frK c + i : Nat) : Int) = 0 ∨ ∃ r : Nat, r < T ∧ ((frK c + i : Nat) : Int) = (r : Int) + 1
    unfold frK nrK at *
    split
    · rename_i hc
      rw [if_pos hc] at hi
      exact .inr ⟨i, hi, by omega⟩
    · rename_i hc
      rw [if_neg hc] at hi
      exact .inl (by omega)
  · show cnK I mp M T c + i * szK I mp M c ≤ 1000
    have e := cn_step I mp M T h1
    have := cn_le h (show c + 1 ≤ 6 by omega)
    have := Nat.mul_le_mul_right (szK I mp M c) (Nat.le_of_lt hi)
    omega
set_option maxRecDepth 100000 in
set_option maxHeartbeats 4000000 in
theorem singles_any (K : Int) (I M : Nat) (g : Gr) (w : World) :
    Calls Tryd.prog 57 #[.agg #[.int .i64 K, .int .i64 (I : Int), .int .i64 (M : Int)], .agg #[.int .i64 g.kd, .int .i64 g.rd, .int .i64 (g.sz : Int), .int .i64 (g.fi : Int)]] w fun e w' => ∃ bg bj : Nat, e = .returned (.func (.func 67) #[] #[.pointer (some ⟨bg, 0, none⟩), .pointer (some ⟨bj, 0, none⟩)]) ∧ Blk w' bg 68 #[.int .i64 g.kd, .int .i64 g.rd, .int .i64 (g.sz : Int), .int .i64 (g.fi : Int)] ∧ Blk w' bj 62 #[.int .i64 K, .int .i64 (I : Int), .int .i64 (M : Int)] ∧ (w.heap.size ≤ bg ∧ bg < w'.heap.size) ∧ (w.heap.size ≤ bj ∧ bj < w'.heap.size) ∧ Below w.heap.size w w' := by
  go_enter Tryd.func57, Tryd.ntmps57
  go_wp2_with (first
    | (refine wpList_box_blk (w := w) rfl 62 _ rfl _ rfl ?_; intro u1 qu1 gu1 zu1)
    | (refine wpList_box_blk (w := u1) rfl 68 _ rfl _ rfl ?_; intro u2 qu2 gu2 zu2))
  go_ret
  have q1 := qu1.grown gu2 (by simp)
  exact ⟨_, _, rfl, qu2, q1, ⟨gu1.size, qu2.lt⟩, ⟨Nat.le_refl _, q1.lt⟩, ((Below.refl _ w).grown gu1 (Nat.le_refl _) (by simp)).grown gu2 gu1.size (by simp)⟩
set_option maxRecDepth 100000 in
set_option maxHeartbeats 4000000 in
theorem pairs_any (K : Int) (I M : Nat) (g : Gr) (w : World) :
    Calls Tryd.prog 58 #[.agg #[.int .i64 K, .int .i64 (I : Int), .int .i64 (M : Int)], .agg #[.int .i64 g.kd, .int .i64 g.rd, .int .i64 (g.sz : Int), .int .i64 (g.fi : Int)]] w fun e w' => ∃ bg bj : Nat, e = .returned (.func (.func 68) #[] #[.pointer (some ⟨bg, 0, none⟩), .pointer (some ⟨bj, 0, none⟩)]) ∧ Blk w' bg 68 #[.int .i64 g.kd, .int .i64 g.rd, .int .i64 (g.sz : Int), .int .i64 (g.fi : Int)] ∧ Blk w' bj 62 #[.int .i64 K, .int .i64 (I : Int), .int .i64 (M : Int)] ∧ (w.heap.size ≤ bg ∧ bg < w'.heap.size) ∧ (w.heap.size ≤ bj ∧ bj < w'.heap.size) ∧ Below w.heap.size w w' := by
  go_enter Tryd.func58, Tryd.ntmps58
  go_wp2_with (first
    | (refine wpList_box_blk (w := w) rfl 62 _ rfl _ rfl ?_; intro u1 qu1 gu1 zu1)
    | (refine wpList_box_blk (w := u1) rfl 68 _ rfl _ rfl ?_; intro u2 qu2 gu2 zu2))
  go_ret
  have q1 := qu1.grown gu2 (by simp)
  exact ⟨_, _, rfl, qu2, q1, ⟨gu1.size, qu2.lt⟩, ⟨Nat.le_refl _, q1.lt⟩, ((Below.refl _ w).grown gu1 (Nat.le_refl _) (by simp)).grown gu2 gu1.size (by simp)⟩
set_option maxRecDepth 100000 in
set_option maxHeartbeats 4000000 in
theorem tasks_any (K : Int) (I mp M T k : Nat) (g : Gr) (h : JobP K I mp M T) (hg : (grs I mp M T)[k]? = some g) (w : World) (hT : Bi.TzT w) :
    Calls Tryd.prog 35 #[.agg #[.int .i64 K, .int .i64 (I : Int), .int .i64 (M : Int)], .agg #[.int .i64 g.kd, .int .i64 g.rd, .int .i64 (g.sz : Int), .int .i64 (g.fi : Int)]] w fun e w' => ∃ (gf : Nat) (lb : Array Value) (Nd : Nat → Prop), e = .returned (.func (.func gf) #[] lb) ∧ Enters Tryd.prog gf ∧ (∀ N, 1 ≤ N → SeqP Fence.wide N Tryd.prog gf lb Nd encT (atG mp M g) w') ∧ (∀ b, Nd b → b = 1 ∨ (w.heap.size ≤ b ∧ b < w'.heap.size)) ∧ Below w.heap.size w w' := by
  obtain ⟨hr, hz, hf, -, -⟩ := grs_says h hg
  by_cases h0 : g.rd = 0
  · have hdec : decide (g.rd = 0) = true := decide_eq_true h0
    have HS := Lib.hid (fun (bg bj : Nat) (W : World) (qg : Blk W bg 68 #[.int .i64 g.kd, .int .i64 g.rd, .int .i64 (g.sz : Int), .int .i64 (g.fi : Int)]) (q : Blk W bj 62 #[.int .i64 K, .int .i64 (I : Int), .int .i64 (M : Int)]) (N : Nat) => singles_p N bg bj K I mp M T g h W q qg h0 (by omega) (by omega))
    clear h h0 hr hz hf hg
    go_enter Tryd.func35, Tryd.ntmps35
    go_wp2_with (first
      | (refine wpList_box_blk (w := w) rfl 62 _ rfl _ rfl ?_; intro u1 qu1 gu1 zu1)
      | (refine wpList_box_blk (w := u1) rfl 68 _ rfl _ rfl ?_; intro u2 qu2 gu2 zu2; have qu1 := qu1.grown gu2 (by simp); have bo2 : Below w.heap.size w u2 := ((Below.refl _ w).grown gu1 (Nat.le_refl _) (by simp)).grown gu2 gu1.size (by simp); have hc1 := qu2.cell (i := 1) rfl)
      | (refine wpList_fld0 (w := u2) rfl rfl rfl Tryd.underlying68 rfl (by kernel_rfl) ?_)
      | (refine Held.wpList_run (w := u2) rfl (v := .bool true) (Held.y_eqI (S := fun _ => True) rfl rfl rfl hdec _ trivial) ?_)
      | (refine wpList_load_blk (w := u2) rfl 62 _ rfl (w.heap.size) 3 rfl 62 _ qu1 _ Tryd.underlying62 rfl (by kernel_rfl) rfl ?_)
      | (refine wpList_load_blk (w := u2) rfl 68 _ rfl (u1.heap.size) 4 rfl 68 _ qu2 _ Tryd.underlying68 rfl (by kernel_rfl) rfl ?_))
    refine (singles_any K I M g u2).mono ?_
    rintro e u3 ⟨bg, bj, rfl, q1, q2, l1, l2, b3⟩
    have b4 := bo2.trans (b3.mono bo2.size)
    have hs := bo2.size
    clear hdec hc1
    go_wp2_with fail
    go_ret
    exact ⟨_, _, _, rfl, enters_of Tryd.func67 (by kernel_rfl) rfl, fun N _ => HS.out bg bj u3 q1 q2 N, fun b hb => .inr (by rcases hb with rfl | rfl <;> omega), b4⟩
  · obtain ⟨r, hrT, hrd⟩ := hr.resolve_left h0
    have hdec : decide (g.rd = 0) = false := decide_eq_false h0
    obtain ⟨kd, rd, sz, fi⟩ := g
    simp only at hrd hz hf hdec ⊢
    subst hrd
    have HS := Lib.hid (fun (bg bj : Nat) (W : World) (qg : Blk W bg 68 #[.int .i64 kd, .int .i64 ((r : Int) + 1), .int .i64 (sz : Int), .int .i64 (fi : Int)]) (q : Blk W bj 62 #[.int .i64 K, .int .i64 (I : Int), .int .i64 (M : Int)]) (hT : Bi.TzT W) (N : Nat) (hN : 1 ≤ N) => pairs_p N bg bj K I mp M T r sz fi kd h hN W q qg hT hrT (by omega))
    have HPA := Lib.hid (fun (W : World) => pairs_any K I M ⟨kd, (r : Int) + 1, sz, fi⟩ W)
    clear h h0 hr hz hf hg hrT
    go_enter Tryd.func35, Tryd.ntmps35
    go_wp2_with (first
      | (refine wpList_box_blk (w := w) rfl 62 _ rfl _ rfl ?_; intro u1 qu1 gu1 zu1)
      | (refine wpList_box_blk (w := u1) rfl 68 _ rfl _ rfl ?_; intro u2 qu2 gu2 zu2; have qu1 := qu1.grown gu2 (by simp); have bo2 : Below w.heap.size w u2 := ((Below.refl _ w).grown gu1 (Nat.le_refl _) (by simp)).grown gu2 gu1.size (by simp); have hc1 := qu2.cell (i := 1) rfl)
      | (refine wpList_fld0 (w := u2) rfl rfl rfl Tryd.underlying68 rfl (by kernel_rfl) ?_)
      | (refine Held.wpList_run (w := u2) rfl (v := .bool false) (Held.y_eqI (S := fun _ => True) rfl rfl rfl hdec _ trivial) ?_)
      | (refine wpList_load_blk (w := u2) rfl 62 _ rfl (w.heap.size) 3 rfl 62 _ qu1 _ Tryd.underlying62 rfl (by kernel_rfl) rfl ?_)
      | (refine wpList_load_blk (w := u2) rfl 68 _ rfl (u1.heap.size) 4 rfl 68 _ qu2 _ Tryd.underlying68 rfl (by kernel_rfl) rfl ?_))
    refine (HPA.out u2).mono ?_
    rintro e u3 ⟨bg, bj, rfl, q1, q2, l1, l2, b3⟩
    have b4 := bo2.trans (b3.mono bo2.size)
    have hs := bo2.size
    have hT3 := hT.below b4 hT.lt
    clear hdec hc1
    go_wp2_with fail
    go_ret
    exact ⟨_, _, _, rfl, enters_of Tryd.func68 (by kernel_rfl) rfl, fun N hN => HS.out bg bj u3 q1 q2 hT3 N hN, fun b hb => hb.elim (fun e => .inr (by omega)) (fun hb => hb.elim (fun e => .inr (by omega)) .inl), b4⟩
set_option maxRecDepth 100000 in
set_option maxHeartbeats 4000000 in
theorem taskss_any (r k b wk : Int) (w : World) :
    Calls Tryd.prog 9 #[.agg #[.int .i64 r, .int .i64 k, .int .i64 b, .int .i64 wk]] w fun e w' => ∃ bp : Nat, e = .returned (.func (.func 32) #[] #[.pointer (some ⟨bp, 0, none⟩)]) ∧ Blk w' bp 23 #[.int .i64 r, .int .i64 k, .int .i64 b, .int .i64 wk] ∧ w.heap.size ≤ bp ∧ Below w.heap.size w w' := by
  go_enter Tryd.func9, Tryd.ntmps9
  go_wp2_with (first
    | (refine wpList_box_blk (w := w) rfl 23 _ rfl _ rfl ?_; intro u1 qu1 gu1 zu1))
  go_ret
  exact ⟨_, rfl, qu1, Nat.le_refl _, (Below.refl _ w).grown gu1 (Nat.le_refl _) (by simp)⟩
def atA (I mp M T k : Nat) : Option (Nat × Tk) := ((tasksT I mp M T)[k]?).map (fun t => (k, t))
theorem atA_group {K : Int} {I mp M T k i : Nat} {g : Gr} {y : Nat × Tk} (h : JobP K I mp M T) (hg : (grs I mp M T)[k]? = some g) (hy : atG mp M g i = some y) : atA I mp M T (g.fi + i) = some y := by
  unfold atG at hy
  obtain ⟨t, ht, rfl⟩ := Option.map_eq_some_iff.1 hy
  obtain ⟨h1, h2⟩ := chn_at (grs_chn h).1 hg
  have hi : i < g.sz := by rw [← h2]; exact (List.getElem?_eq_some_iff.1 ht).1
  unfold atA
  rw [← grs_tasks, flat_at (grs_chn h).1 hg hi, ht]
  rfl
theorem atG_end {K : Int} {I mp M T k i : Nat} {g : Gr} (h : JobP K I mp M T) (hg : (grs I mp M T)[k]? = some g) (hi : i ≤ g.sz) (hn : atG mp M g i = none) : i = g.sz := by
  obtain ⟨h1, h2⟩ := chn_at (grs_chn h).1 hg
  unfold atG at hn
  rw [Option.map_eq_none_iff, List.getElem?_eq_none_iff, h2] at hn
  omega
theorem atG_lt {K : Int} {I mp M T k i : Nat} {g : Gr} {y : Nat × Tk} (h : JobP K I mp M T) (hg : (grs I mp M T)[k]? = some g) (hy : atG mp M g i = some y) : i < g.sz ∧ y.1 = g.fi + i ∧ (tasksT I mp M T)[g.fi + i]? = some y.2 := by
  obtain ⟨h1, h2⟩ := chn_at (grs_chn h).1 hg
  have ha := atA_group h hg hy
  unfold atG at hy
  obtain ⟨t, ht, rfl⟩ := Option.map_eq_some_iff.1 hy
  refine ⟨by rw [← h2]; exact (List.getElem?_eq_some_iff.1 ht).1, rfl, ?_⟩
  unfold atA at ha
  obtain ⟨t', ht', he⟩ := Option.map_eq_some_iff.1 ha
  injection he with _ he
  rw [ht', he]
def frstA (I mp M T k : Nat) : Nat := (((grs I mp M T).take k).flatMap (tkOf mp M)).length
theorem atA_end {I mp M T k : Nat} (hg : (grs I mp M T)[k]? = none) : atA I mp M T (frstA I mp M T k) = none := by
  unfold atA frstA
  rw [take_end hg, grs_tasks]
  simp
set_option maxRecDepth 100000 in
set_option maxHeartbeats 16000000 in
theorem tasks_p (N bp : Nat) (r k b wk : Int) (hk0 : -9223372036854775808 ≤ k) (hk1 : k ≤ 9223372036854775807) (hN : 4 ≤ N) (w : World) (q : Blk w bp 23 #[.int .i64 r, .int .i64 k, .int .i64 b, .int .i64 wk]) (hT : Bi.TzT w) :
    SeqP Fence.wide N Tryd.prog 32 #[.pointer (some ⟨bp, 0, none⟩)] (fun b => b = 1) encT (atA (inN r k b wk) (mpN r k b wk) (mN r k b wk) (tN r k b wk)) w := by
  have h := job_of (r := r) (b := b) (wk := wk) hk0 hk1
  have HJ := Lib.hid (fun (W : World) => jobOf_any r k b wk W)
  generalize inN r k b wk = I at *
  generalize mpN r k b wk = mp at *
  generalize mN r k b wk = M at *
  generalize tN r k b wk = T at *
  obtain ⟨K, hK⟩ : ∃ K, k = K := ⟨_, rfl⟩
  have HJ : Hid (∀ W, Calls Tryd.prog 33 #[.agg #[.int .i64 r, .int .i64 k, .int .i64 b, .int .i64 wk]] W fun e w' => e = .returned (.agg #[.int .i64 K, .int .i64 (I : Int), .int .i64 (M : Int)]) ∧ Below W.heap.size W w') := by rw [← hK]; exact HJ
  rw [hK] at h
  clear hk0 hk1 hK
  intro l J Jx W hW hJ hJx hY h0
  have hT0 := hT.below hW hT.lt
  have qp := q.after hW
  have HGP := Lib.hid (fun (bq : Nat) (X : World) (q : Blk X bq 62 #[.int .i64 K, .int .i64 (I : Int), .int .i64 (M : Int)]) (hT : Bi.TzT X) => groups_p (N - 1) bq K I mp M T h X q hT)
  have HTK := Lib.hid (fun (i : Nat) (g : Gr) (hg : (grs I mp M T)[i]? = some g) (X : World) (hT : Bi.TzT X) => tasks_any K I mp M T i g h hg X hT)
  have HAT := Lib.hid (fun (i j : Nat) (g : Gr) (y : Nat × Tk) (hg : (grs I mp M T)[i]? = some g) (hy : atG mp M g j = some y) => atA_group h hg hy)
  have HIX := Lib.hid (fun (i : Nat) (g : Gr) (hg : (grs I mp M T)[i]? = some g) => show frstA I mp M T i = g.fi ∧ frstA I mp M T (i + 1) = g.fi + g.sz from ⟨by unfold frstA; have := (chn_at (grs_chn h).1 hg).1; omega, take_next (grs_chn h).1 hg⟩)
  have HGE := Lib.hid (fun (i j : Nat) (g : Gr) (hg : (grs I mp M T)[i]? = some g) (hj : j ≤ g.sz) (hn : atG mp M g j = none) => atG_end h hg hj hn)
  have HGL := Lib.hid (fun (i j : Nat) (g : Gr) (y : Nat × Tk) (hg : (grs I mp M T)[i]? = some g) (hy : atG mp M g j = some y) => (atG_lt h hg hy).1)
  have HEN := Lib.hid (fun (i : Nat) (hg : (grs I mp M T)[i]? = none) => atA_end hg)
  have HY := Lib.hid hY
  clear hY h hW hT q
  refine callsIn_of_wp_marks Tryd.func32 rfl trivial ?_ rfl
  simp only [Tryd.ntmps32, List.size_toArray, List.length_cons, List.length_nil, Nat.reduceAdd, Nat.reduceSub, Array.replicate_succ, Array.replicate_zero, List.push_toArray, List.append_toArray, List.nil_append, List.cons_append]
  gi_wp2_with (first
    | (refine Held.wpListIn_one (r := none) rfl (by intro c e; cases e) ?_; refine Held.wpList_box_cell (w := W) rfl 60 _ rfl (.func (.yield l) #[] #[]) rfl rfl ?_; intro u1 q1 g1 z1; have q1 : Blk u1 W.heap.size 60 #[.func (.yield l) #[] #[]] := q1; have b1 : Below W.heap.size W u1 := (Below.refl _ W).grown g1 (Nat.le_refl _) (by simp); have qp1 := qp.after b1; refine wpList_nil ⟨rfl, ?_⟩)
    | (refine Held.wpListIn_one (r := none) rfl (by intro c e; cases e) ?_; refine wpList_load_blk (w := u1) rfl 23 _ rfl (bp) 4 rfl 23 _ qp1 _ Tryd.underlying23 rfl (by kernel_rfl) rfl ?_; refine wpList_nil ⟨rfl, ?_⟩))
  first | (refine ⟨trivial, fun h => (by cases h), ?_⟩; refine (callsIn_wide.2 (HJ.out u1)).mono ?_) | (refine ⟨trivial, ?_⟩; refine (callsIn_wide.2 (HJ.out u1)).mono ?_)
  rintro e u2 ⟨rfl, b2⟩
  have qy2 := q1.after b2
  gi_wp2_with (first
    | (refine Held.wpListIn_one (r := none) rfl (by intro c e; cases e) ?_; refine wpList_alloc_blk (w := u2) rfl 62 rfl #[.int .i64 0, .int .i64 0, .int .i64 0] (by kernel_rfl) ?_; intro u3 qu3 gu3 zu3; refine wpList_nil ⟨rfl, ?_⟩)
    | (refine Held.wpListIn_one (r := none) rfl (by intro c e; cases e) ?_; refine wpList_store_blk (w := u3) rfl 62 _ _ rfl (u2.heap.size) 3 rfl 62 _ #[.int .i64 K, .int .i64 (I : Int), .int .i64 (M : Int)] rfl qu3 (by kernel_rfl) rfl rfl (by kernel_rfl) ?_; intro u4 qu4 gu4 zu4; have b4 : Below u2.heap.size u2 u4 := ((Below.refl _ u2).grown gu3 (Nat.le_refl _) (by simp)).grown gu4 gu3.size (fun r e => by cases e; exact Nat.le_refl _); refine wpList_nil ⟨rfl, ?_⟩)
    | (refine Held.wpListIn_one (r := none) rfl (by intro c e; cases e) ?_; refine wpList_load_blk (w := u4) rfl 62 _ rfl (u2.heap.size) 3 rfl 62 _ qu4 _ Tryd.underlying62 rfl (by kernel_rfl) rfl ?_; refine wpList_nil ⟨rfl, ?_⟩))
  first | (refine ⟨trivial, fun h => (by cases h), ?_⟩; refine (callsIn_wide.2 (groups_any K I M u4)).mono ?_) | (refine ⟨trivial, ?_⟩; refine (callsIn_wide.2 (groups_any K I M u4)).mono ?_)
  rintro e u5 ⟨bq, rfl, qq5, hbq, b5⟩
  have qy5 := (qy2.after b4).after b5
  have qj5 := qu4.after b5
  have bb : Below W.heap.size W u5 := b1.trans ((b2.mono b1.size).trans ((b4.mono (Nat.le_trans b1.size b2.size)).trans (b5.mono (Nat.le_trans b1.size (Nat.le_trans b2.size b4.size)))))
  have hT5 := hT0.below bb hT0.lt
  have J5 := hJ.all h0 bb
  have lT : 1 < W.heap.size := hT0.lt
  have ly : W.heap.size < u1.heap.size := q1.lt
  have l12 := b2.size
  have lj : u2.heap.size < u4.heap.size := qu4.lt
  have l45 := b5.size
  have lq : bq < u5.heap.size := qq5.lt
  have hit := HGP.out bq u5 qq5 hT5
  generalize hby : W.heap.size = by_ at *
  generalize hbj : u2.heap.size = bj at *
  clear b1 b2 b4 b5 bb qp1 qy2 q1 qu3 qu4 g1 gu3 gu4 z1 zu3 zu4 h0 hT0 HGP HJ hby hbj qp
  gi_wp2_with fail
  refine wpIn_rangeFunc_p rfl (show 1 ≤ N by omega) (gf := 54) (lb := #[.pointer (some ⟨bq, 0, none⟩)]) rfl trivial (enters_of Tryd.func54 (by kernel_rfl) rfl)
    hit (Below.refl _ _) (fun _ => rfl) (fun b hb => by rcases hb with rfl | rfl <;> omega)
    (Inn J (fun b => b = by_ ∨ b = bj ∨ b = bq) (fun b => b = 1) (fun k X => Blk X by_ 60 #[.func (.yield l) #[] #[]] ∧ Blk X bj 62 #[.int .i64 K, .int .i64 (I : Int), .int .i64 (M : Int)] ∧ Bi.TzT X) (frstA I mp M T))
    (fun c pv k X => c = .ret ∧ Out Jx pv k X) ?hI ?hIx ?h0
    (fun pv i x a' X => ∃ bg, Inn J (fun r => r = bg ∨ (r = by_ ∨ r = bj ∨ r = bq)) (fun b => b = 1) (fun k X => (Blk X by_ 60 #[.func (.yield l) #[] #[]] ∧ Blk X bj 62 #[.int .i64 K, .int .i64 (I : Int), .int .i64 (M : Int)] ∧ Bi.TzT X) ∧ Blk X bg 68 #[.int .i64 x.kd, .int .i64 x.rd, .int .i64 (x.sz : Int), .int .i64 (x.fi : Int)]) (frstA I mp M T) pv i X ∧ a' = { tmps := #[.func (.yield l) #[] #[], .pointer (some ⟨bp, 0, none⟩), .pointer (some ⟨by_, 0, none⟩), .pointer (some ⟨bj, 0, none⟩), .pointer (some ⟨bg, 0, none⟩), undef, undef, .agg #[.int .i64 r, .int .i64 k, .int .i64 b, .int .i64 wk], .agg #[.int .i64 K, .int .i64 (I : Int), .int .i64 (M : Int)], .agg #[.int .i64 K, .int .i64 (I : Int), .int .i64 (M : Int)], .func (.func 54) #[] #[.pointer (some ⟨bq, 0, none⟩)], grV x, undef, undef, undef, undef, undef, undef, undef, undef, undef, undef], defers := [] }) ?hIb ?assign ?body ?done ?stop
  case hI =>
    refine stay_inn hJ ?_
    rintro i X X' ⟨a1, a2, a3⟩ kp
    exact ⟨kp_blk kp a1 (by simp), kp_blk kp a2 (by simp), kp_tz kp a3 (by simp)⟩
  case hIx => exact fun c => stay_and stay_const (stay_out hJx)
  case h0 =>
    refine inn_start J5 ?_ ?_ ⟨qy5, qj5, hT5⟩
    · intro b hb
      rcases hb with rfl | rfl | rfl <;> exact .inr ⟨by omega, by omega⟩
    · intro b hb
      rcases hb with (rfl | rfl | rfl) | rfl <;> omega
  case hIb =>
    rintro pv i x a' X X' b ⟨bg, h1, h2⟩ hb hg
    refine ⟨bg, (stay_inn hJ ?_).put _ _ _ _ _ h1 hb hg, h2⟩
    rintro i X X' ⟨⟨a1, a2, a3⟩, a4⟩ kp
    exact ⟨⟨kp_blk kp a1 (by simp), kp_blk kp a2 (by simp), kp_tz kp a3 (by simp)⟩, kp_blk kp a4 (by simp)⟩
  case assign =>
    rintro l' pv i x X C hl' hI hat hC
    simp only [grV, List.zip_toArray, List.zip_cons_cons, List.zip_nil_right, List.foldl_toArray, List.foldl_cons, List.foldl_nil, List.setIfInBounds_toArray, List.set_cons_zero, List.set_cons_succ]
    gi_wp2_with (first
      | (refine Held.wpListIn_one (r := some l') rfl (by intro c e; cases e) ?_; refine wpList_alloc_blk (w := X) rfl 68 rfl #[.int .i64 0, .int .i64 0, .int .i64 0, .int .i64 0] (by kernel_rfl) ?_; intro X1 qX1 gX1 zX1; refine wpList_nil ⟨rfl, ?_⟩)
      | (refine Held.wpListIn_one (r := some l') rfl (by intro c e; cases e) ?_; refine wpList_store_blk (w := X1) rfl 68 _ _ rfl (X.heap.size) 4 rfl 68 _ #[.int .i64 x.kd, .int .i64 x.rd, .int .i64 (x.sz : Int), .int .i64 (x.fi : Int)] rfl qX1 (by kernel_rfl) rfl rfl (by kernel_rfl) ?_; intro X2 qX2 gX2 zX2; have bx : Below X.heap.size X X2 := ((Below.refl _ X).grown gX1 (Nat.le_refl _) (by simp)).grown gX2 gX1.size (fun r e => by cases e; exact Nat.le_refl _); refine wpList_nil ⟨rfl, ?_⟩))
    refine hC _ _ (KeepsP.of_below bx) ⟨X.heap.size, inn_more hJ hI bx (Nat.le_refl _) qX2.lt ?_, rfl⟩
    rintro ⟨a1, a2, a3⟩ kp
    exact ⟨⟨kp_blk kp a1 (by simp), kp_blk kp a2 (by simp), kp_tz kp a3 (by simp)⟩, qX2⟩
  case body =>
    rintro l' pv i g a' X hl' ⟨lr, hlr⟩ ⟨bg, ⟨pvo, p1, p2, p3, p4, p5, ⟨qy, qj, hT0⟩, qg⟩, rfl⟩ hat
    obtain ⟨hi1, hi2⟩ := HIX.out i g hat
    simp only [hi1, grV] at p2 ⊢
    gi_wp2_with (first
      | (refine Held.wpListIn_one (r := some l') rfl (by intro c e; cases e) ?_; refine wpList_load_blk (w := X) rfl 62 _ rfl (bj) 3 rfl 62 _ qj _ Tryd.underlying62 rfl (by kernel_rfl) rfl ?_; refine wpList_nil ⟨rfl, ?_⟩)
      | (refine Held.wpListIn_one (r := some l') rfl (by intro c e; cases e) ?_; refine wpList_load_blk (w := X) rfl 68 _ rfl (bg) 4 rfl 68 _ qg _ Tryd.underlying68 rfl (by kernel_rfl) rfl ?_; refine wpList_nil ⟨rfl, ?_⟩))
    first | (refine ⟨trivial, fun h => (by cases h), ?_⟩; refine (callsIn_wide.2 (HTK.out i g hat X hT0)).mono ?_) | (refine ⟨trivial, ?_⟩; refine (callsIn_wide.2 (HTK.out i g hat X hT0)).mono ?_)
    rintro e X2 ⟨gf, lb, Nd, rfl, hent, hsq, hNd, b2⟩
    have J2 := hJ.all p2 b2
    have qy2 := qy.after b2
    have qj2 := qj.after b2
    have hT2 := hT0.below b2 hT0.lt
    have hl2 : X2.heap[l']? = some (.loop lr) := (b2.block l' (Array.getElem?_eq_some_iff.1 hlr).1).trans hlr
    have hx2 := b2.size
    have lpv := p5
    have l3y := (p4 by_ (.inl (.inr (.inl rfl)))).2
    have l3j := (p4 bj (.inl (.inr (.inr (.inl rfl))))).2
    have l3q := (p4 bq (.inl (.inr (.inr (.inr rfl))))).2
    have l3T := (p4 1 (.inr rfl)).2
    have n3y := (p4 by_ (.inl (.inr (.inl rfl)))).1
    have n3j := (p4 bj (.inl (.inr (.inr (.inl rfl))))).1
    have n3q := (p4 bq (.inl (.inr (.inr (.inr rfl))))).1
    have n3T := (p4 1 (.inr rfl)).1
    have p3y : pvo by_ := p3 by_ (.inr (.inl rfl))
    have p3j : pvo bj := p3 bj (.inr (.inr (.inl rfl)))
    have p3q : pvo bq := p3 bq (.inr (.inr (.inr rfl)))
    have kX2 : KeepsP (fun b => (b = bq ∨ b = 1) ∨ pv b) X X2 := KeepsP.of_below b2
    clear HTK p4 p3 qy qj hT0 qg b2 p2 hlr
    gi_wp2_with fail
    refine wpIn_rangeFunc_pN rfl hl2 (show 1 ≤ N - 1 - 1 by omega) (gf := gf) (lb := lb) rfl trivial (hent)
      ((hsq (N - 1 - 1 - 1) (by omega)).inRound l') (Below.refl _ _) (fun _ => rfl) (fun b hb => by rcases hNd b hb with rfl | hb <;> omega)
      (Inn J (fun b => (b = by_ ∨ b = bj ∨ b = bq) ∨ pv b ∨ (X.heap.size ≤ b ∧ b < X2.heap.size)) (fun b => b = 1) (fun j Z => (j ≤ g.sz ∧ Blk Z by_ 60 #[.func (.yield l) #[] #[]] ∧ Blk Z bj 62 #[.int .i64 K, .int .i64 (I : Int), .int .i64 (M : Int)] ∧ Bi.TzT Z) ∧ KeepsP (fun b => (b = bq ∨ b = 1) ∨ pv b) X Z) (fun k2 => g.fi + k2))
      (fun c pv2 j Z => c = .ret ∧ ∃ q, Inn Jx (fun b => (b = by_ ∨ b = bj ∨ b = bq) ∨ pv b ∨ (X.heap.size ≤ b ∧ b < X2.heap.size)) (fun b => b = 1) (fun _ Z => KeepsP (fun b => (b = bq ∨ b = 1) ∨ pv b) X Z) (fun _ => q) pv2 j Z) ?iI ?iIx ?i0
      (fun pv2 j y a' Z => ∃ bt, Inn J (fun r => r = bt ∨ ((r = by_ ∨ r = bj ∨ r = bq) ∨ pv r ∨ (X.heap.size ≤ r ∧ r < X2.heap.size))) (fun b => b = 1) (fun j Z => ((j ≤ g.sz ∧ Blk Z by_ 60 #[.func (.yield l) #[] #[]] ∧ Blk Z bj 62 #[.int .i64 K, .int .i64 (I : Int), .int .i64 (M : Int)] ∧ Bi.TzT Z) ∧ KeepsP (fun b => (b = bq ∨ b = 1) ∨ pv b) X Z) ∧ Blk Z bt 34 #[.int .i64 y.2.kd, .int .i64 y.2.rd, .int .i64 y.2.a, .int .i64 y.2.b, .bool y.2.up]) (fun k2 => g.fi + k2) pv2 j Z ∧ a' = { tmps := #[.func (.yield l) #[] #[], .pointer (some ⟨bp, 0, none⟩), .pointer (some ⟨by_, 0, none⟩), .pointer (some ⟨bj, 0, none⟩), .pointer (some ⟨bg, 0, none⟩), .int .i64 (y.1 : Int), .pointer (some ⟨bt, 0, none⟩), .agg #[.int .i64 r, .int .i64 k, .int .i64 b, .int .i64 wk], .agg #[.int .i64 K, .int .i64 (I : Int), .int .i64 (M : Int)], .agg #[.int .i64 K, .int .i64 (I : Int), .int .i64 (M : Int)], .func (.func 54) #[] #[.pointer (some ⟨bq, 0, none⟩)], .agg #[.int .i64 g.kd, .int .i64 g.rd, .int .i64 (g.sz : Int), .int .i64 (g.fi : Int)], .agg #[.int .i64 K, .int .i64 (I : Int), .int .i64 (M : Int)], .agg #[.int .i64 g.kd, .int .i64 g.rd, .int .i64 (g.sz : Int), .int .i64 (g.fi : Int)], .func (.func gf) #[] lb, .int .i64 (y.1 : Int), tkV y.2, undef, undef, undef, undef, undef], defers := [] }) ?iIb ?iassign ?ibody ?idone ?istop
    case iI =>
      refine stay_inn hJ ?_
      rintro j Z Z' ⟨⟨a0, a1, a2, a3⟩, a4⟩ kp
      exact ⟨⟨a0, kp_blk kp a1 (by simp), kp_blk kp a2 (by simp), kp_tz kp a3 (by simp)⟩, a4.trans (kp.less (fun b hb => hb.elim (fun hb => hb.elim (fun e => .inl (.inl (.inr (.inr e)))) .inr) (fun hb => .inl (.inr (.inl hb)))))⟩
    case iIx =>
      refine fun c => stay_and stay_const (stay_ex fun q => stay_inn hJx ?_)
      rintro j Z Z' a4 kp
      exact a4.trans (kp.less (fun b hb => hb.elim (fun hb => hb.elim (fun e => .inl (.inl (.inr (.inr e)))) .inr) (fun hb => .inl (.inr (.inl hb)))))
    case i0 =>
      refine inn_start J2 ?_ ?_ ⟨⟨Nat.zero_le _, qy2, qj2, hT2⟩, kX2⟩
      · intro b hb
        rcases hb with (rfl | rfl | rfl) | hb | hb
        · exact .inl p3y
        · exact .inl p3j
        · exact .inl p3q
        · exact .inl (p1 b hb)
        · exact .inr hb
      · intro b hb
        rcases hb with ((rfl | rfl | rfl) | hb | hb) | rfl
        · omega
        · omega
        · omega
        · have := lpv b hb; omega
        · omega
        · omega
    case iIb =>
      rintro pv2 j y a' Z Z' b ⟨bt, h1, h2⟩ hb hg
      refine ⟨bt, (stay_inn hJ ?_).put _ _ _ _ _ h1 hb hg, h2⟩
      rintro j Z Z' ⟨⟨⟨a0, a1, a2, a3⟩, a4⟩, a5⟩ kp
      exact ⟨⟨⟨a0, kp_blk kp a1 (by simp), kp_blk kp a2 (by simp), kp_tz kp a3 (by simp)⟩, a4.trans (kp.less (fun b hb => hb.elim (fun hb => hb.elim (fun e => .inl (.inr (.inl (.inr (.inr e))))) .inr) (fun hb => .inl (.inr (.inr (.inl hb))))))⟩, kp_blk kp a5 (by simp)⟩
    case iassign =>
      rintro l2 pv2 j y Z C hl2' hI hat2 hC
      simp only [encT, tkV, List.zip_toArray, List.zip_cons_cons, List.zip_nil_right, List.foldl_toArray, List.foldl_cons, List.foldl_nil, List.setIfInBounds_toArray, List.set_cons_zero, List.set_cons_succ]
      gi_wp2_with (first
        | (refine Held.wpListIn_one (r := some l2) rfl (by intro c e; cases e) ?_; refine wpList_alloc_blk (w := Z) rfl 34 rfl #[.int .i64 0, .int .i64 0, .int .i64 0, .int .i64 0, .bool false] (by kernel_rfl) ?_; intro Z1 qZ1 gZ1 zZ1; refine wpList_nil ⟨rfl, ?_⟩)
        | (refine Held.wpListIn_one (r := some l2) rfl (by intro c e; cases e) ?_; refine wpList_store_blk (w := Z1) rfl 34 _ _ rfl (Z.heap.size) 5 rfl 34 _ #[.int .i64 y.2.kd, .int .i64 y.2.rd, .int .i64 y.2.a, .int .i64 y.2.b, .bool y.2.up] rfl qZ1 (by kernel_rfl) rfl rfl (by kernel_rfl) ?_; intro Z2 qZ2 gZ2 zZ2; have bx : Below Z.heap.size Z Z2 := ((Below.refl _ Z).grown gZ1 (Nat.le_refl _) (by simp)).grown gZ2 gZ1.size (fun r e => by cases e; exact Nat.le_refl _); refine wpList_nil ⟨rfl, ?_⟩))
      refine hC _ _ (KeepsP.of_below bx) ⟨Z.heap.size, inn_more hJ hI bx (Nat.le_refl _) qZ2.lt ?_, rfl⟩
      rintro ⟨⟨a0, a1, a2, a3⟩, a4⟩ kp
      exact ⟨⟨⟨a0, kp_blk kp a1 (by simp), kp_blk kp a2 (by simp), kp_tz kp a3 (by simp)⟩, a4.trans (kp.less (fun b hb => hb.elim (fun hb => hb.elim (fun e => .inl (.inl (.inr (.inr e)))) .inr) (fun hb => .inl (.inr (.inl hb)))))⟩, qZ2⟩
    case ibody =>
      rintro l2 pv2 j y a' Z hl2' - ⟨bt, ⟨pvi, i1, i2, i3, i4, i5, ⟨⟨i6, qy, qj, hT0⟩, kXZ⟩, qt⟩, rfl⟩ hat2
      have hjs := HGL.out i j g y hat hat2
      have ci := qy.cell (i := 0) rfl
      obtain ⟨fn, tmps, assign, body, hy, hR⟩ := HY.out pvi (g.fi + j) y Z i2 (HAT.out i j g y hat hat2)
      have hy : (Instr.yield l #[.int .i64 (y.1 : Int), .agg #[.int .i64 y.2.kd, .int .i64 y.2.rd, .int .i64 y.2.a, .int .i64 y.2.b, .bool y.2.up]]).run Tryd.prog Z = .ok (.round l fn tmps assign body) Z := hy
      gi_wp2_with (first
        | (refine Held.wpListIn_one (r := some l2) rfl (by intro c e; cases e) ?_; refine wpList_load_blk (w := Z) rfl 34 _ rfl (bt) 5 rfl 34 _ qt _ Tryd.underlying34 rfl (by kernel_rfl) rfl ?_; refine wpList_nil ⟨rfl, ?_⟩))
      first | refine (round_wide (r := some l2) hR).mono ?_ | (refine ⟨fun h => (by cases h), ?_⟩; refine (round_wide (r := some l2) hR).mono ?_)
      rintro e Z2 ⟨kp, hor⟩
      have kN : KeepsP (fun b => Nd b ∨ pv2 b) Z Z2 := KeepsP.less kp (fun b hb => hb.elim (fun hb => (hNd b hb).elim .inl (fun hb => .inr (i3 b (.inr (.inr (.inr hb)))))) (fun hb => .inr (i1 b hb)))
      have kXZ2 : KeepsP (fun b => (b = bq ∨ b = 1) ∨ pv b) X Z2 := kXZ.trans (KeepsP.less kp (fun b hb => hb.elim (fun hb => hb.elim (fun e => .inr (i3 b (.inr (.inl (.inr (.inr e)))))) .inl) (fun hb => .inr (i3 b (.inr (.inr (.inl hb)))))))
      have qy2' := kp_blk kp qy (.inr (i3 by_ (.inr (.inl (.inl rfl)))))
      have qj2' := kp_blk kp qj (.inr (i3 bj (.inr (.inl (.inr (.inl rfl))))))
      have hT2' := kp_tz kp hT0 (.inl rfl)
      have hzz := kN.size
      have j3 : ∀ b, ((b = by_ ∨ b = bj ∨ b = bq) ∨ pv b ∨ (X.heap.size ≤ b ∧ b < X2.heap.size)) → pvi b := fun b hb => i3 b (.inr hb)
      have j4 : ∀ b, (((b = by_ ∨ b = bj ∨ b = bq) ∨ pv b ∨ (X.heap.size ≤ b ∧ b < X2.heap.size)) ∨ b = 1) → ¬ pv2 b ∧ b < Z2.heap.size := fun b hb => ⟨(i4 b (hb.elim (fun h => .inl (.inr h)) .inr)).1, Nat.lt_of_lt_of_le (i4 b (hb.elim (fun h => .inl (.inr h)) .inr)).2 hzz⟩
      have j5 : ∀ b, pv2 b → b < Z2.heap.size := fun b hb => Nat.lt_of_lt_of_le (i5 b hb) hzz
      rcases hor with ⟨rfl, J3⟩ | ⟨rfl, x3⟩
      · clear hR hy i3 i4 i5 kp qy qj hT0 kXZ qt ci
        gi_wp2_with fail
        exact ⟨kN, pvi, i1, J3, j3, j4, j5, ⟨⟨hjs, qy2', qj2', hT2'⟩, kXZ2⟩⟩
      · clear hR hy i3 i4 i5 kp qy qj hT0 kXZ qt ci
        gi_wp2_with fail
        exact ⟨kN, rfl, _, pvi, i1, x3, j3, j4, j5, kXZ2⟩
    case idone =>
      rintro pv2 j Z hat2 ⟨pvi, i1, i2, i3, i4, i5, ⟨⟨i6, qy, qj, hT0⟩, kXZ⟩⟩
      obtain rfl := HGE.out i j g hat i6 hat2
      have hzz := kXZ.size
      gi_wp2_with fail
      refine ⟨kXZ, pvi, fun b hb => i3 b (.inr (.inl hb)), by rw [hi2]; exact i2, fun b hb => i3 b (.inl hb), fun b hb => ?_, fun b hb => by have := lpv b hb; omega, qy, qj, hT0⟩
      rcases hb with (rfl | rfl | rfl) | rfl
      · exact ⟨n3y, by omega⟩
      · exact ⟨n3j, by omega⟩
      · exact ⟨n3q, by omega⟩
      · exact ⟨n3T, by omega⟩
    case istop =>
      rintro c pv2 j Z ⟨rfl, q, pvi, i1, i2, i3, i4, i5, kXZ⟩
      gi_wp2_with fail
      exact ⟨kXZ, rfl, pvi, _, fun b hb => i3 b (.inr (.inl hb)), i2⟩
  case stop =>
    rintro D cc pv i X ⟨rfl, pvo, k', p1, x2⟩ hD hDh
    gi_wp2_with fail
    refine ⟨by simp, .inl ⟨_, _, rfl, run_takeDeferred hDh, ?_⟩⟩
    exact ⟨_, results_none rfl _ _ _, ⟨_, rfl⟩, .inr ⟨pvo, k', hJx.put _ _ _ _ D x2 (p1 D hD) (grownBy_putObj' _ _ _)⟩⟩
  case done =>
    rintro D pv i X hat ⟨pvo, p1, p2, -⟩ hD hDh
    gi_wp2_with fail
    refine ⟨by simp, .inl ⟨_, _, rfl, run_takeDeferred hDh, ?_⟩⟩
    exact ⟨_, results_none rfl _ _ _, ⟨_, rfl⟩, .inl ⟨pvo, _, HEN.out i hat, hJ.put _ _ _ _ D p2 (p1 D hD) (grownBy_putObj' _ _ _)⟩⟩
end Go.Proofs.YtipmfficjomcoaaDoor.Sh
