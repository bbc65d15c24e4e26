/-
  Package shape's sorted, last, phases, addresses, and slices.Index and Contains over numbers, by their contracts.
  More steps of a region: a struct allocated, a list of structs built: no program here.
  Package shape's reads and writes of a task, by their contracts.
-/
import Derived.Test.YtipmfficjomcoaaDoorB4
import Derived.Test.YtipmfficjomcoaaDoorB5
import Derived.Test.YtipmfficjomcoaaDoorB2
set_option linter.unusedVariables false
namespace Go.Proofs.YtipmfficjomcoaaDoor.Sh
open Go.RowKit Go.Shelf Mem Held Go.Proofs.YtipmfficjomcoaaDoor.Range Sl
attribute [local go_sem] Oper.semAt_some
attribute [local irreducible] wpList wpListIn Calls
def spV (s : Sp) : Value := .agg #[.int .i64 s.ph, .int .i64 s.rd, .int .i64 s.ad]
set_option maxRecDepth 100000 in
set_option maxHeartbeats 4000000 in
theorem sorted_any (r a : Int) (w : World) :
    Calls Tryd.prog 61 #[.int .i64 r, .int .i64 a] w fun e w' => e = .returned (spV (behP 1 2 r a)) ∧ Below w.heap.size w w' := by
  by_cases hr : r = 0
  · have hdec : decide (r = 0) = true := decide_eq_true hr
    rw [show behP 1 2 r a = ⟨1, 0, a⟩ from if_pos hr]
    clear hr
    go_enter Tryd.func61, Tryd.ntmps61
    go_wp2_with (first
      | (refine wpList_alloc_blk (w := w) rfl 42 rfl #[.int .i64 0, .int .i64 0, .int .i64 0] (by kernel_rfl) ?_; intro u1 qu1 gu1 zu1)
      | (refine Held.wpList_run (w := u1) rfl (v := .bool true) (Held.y_eqI (S := fun _ => True) rfl rfl rfl hdec _ trivial) ?_)
      | (refine wpList_build_blk rfl 42 #[_, _] rfl #[.int .i64 1, .int .i64 0, .int .i64 a] (by kernel_rfl) ?_)
      | (refine wpList_store_blk (w := u1) rfl 42 _ _ rfl (w.heap.size) 3 rfl 42 _ #[.int .i64 1, .int .i64 0, .int .i64 a] rfl qu1 (by kernel_rfl) rfl rfl (by kernel_rfl) ?_; intro u2 qu2 gu2 zu2))
    exact bodyPost_ret (results_blk rfl _ _ w.heap.size 3 _ _ rfl qu2 _ Tryd.underlying42 rfl (by kernel_rfl) rfl) rfl ⟨rfl, ((Below.refl _ w).grown gu1 (Nat.le_refl _) (by simp)).grown gu2 gu1.size (fun r e => by cases e; exact Nat.le_refl _)⟩
  · have hdec : decide (r = 0) = false := decide_eq_false hr
    rw [show behP 1 2 r a = ⟨2, r, a⟩ from if_neg hr]
    clear hr
    go_enter Tryd.func61, Tryd.ntmps61
    go_wp2_with (first
      | (refine wpList_alloc_blk (w := w) rfl 42 rfl #[.int .i64 0, .int .i64 0, .int .i64 0] (by kernel_rfl) ?_; intro u1 qu1 gu1 zu1)
      | (refine Held.wpList_run (w := u1) rfl (v := .bool false) (Held.y_eqI (S := fun _ => True) rfl rfl rfl hdec _ trivial) ?_)
      | (refine wpList_build_blk rfl 42 #[_, _, _] rfl #[.int .i64 2, .int .i64 r, .int .i64 a] (by kernel_rfl) ?_)
      | (refine wpList_store_blk (w := u1) rfl 42 _ _ rfl (w.heap.size) 3 rfl 42 _ #[.int .i64 2, .int .i64 r, .int .i64 a] rfl qu1 (by kernel_rfl) rfl rfl (by kernel_rfl) ?_; intro u2 qu2 gu2 zu2))
    exact bodyPost_ret (results_blk rfl _ _ w.heap.size 3 _ _ rfl qu2 _ Tryd.underlying42 rfl (by kernel_rfl) rfl) rfl ⟨rfl, ((Below.refl _ w).grown gu1 (Nat.le_refl _) (by simp)).grown gu2 gu1.size (fun r e => by cases e; exact Nat.le_refl _)⟩
set_option maxRecDepth 100000 in
set_option maxHeartbeats 4000000 in
theorem last_any (r a : Int) (w : World) :
    Calls Tryd.prog 49 #[.int .i64 r, .int .i64 a] w fun e w' => e = .returned (spV (behP 3 5 r a)) ∧ Below w.heap.size w w' := by
  by_cases hr : r = 0
  · have hdec : decide (r = 0) = true := decide_eq_true hr
    rw [show behP 3 5 r a = ⟨3, 0, a⟩ from if_pos hr]
    clear hr
    go_enter Tryd.func49, Tryd.ntmps49
    go_wp2_with (first
      | (refine wpList_alloc_blk (w := w) rfl 42 rfl #[.int .i64 0, .int .i64 0, .int .i64 0] (by kernel_rfl) ?_; intro u1 qu1 gu1 zu1)
      | (refine Held.wpList_run (w := u1) rfl (v := .bool true) (Held.y_eqI (S := fun _ => True) rfl rfl rfl hdec _ trivial) ?_)
      | (refine wpList_build_blk rfl 42 #[_, _] rfl #[.int .i64 3, .int .i64 0, .int .i64 a] (by kernel_rfl) ?_)
      | (refine wpList_store_blk (w := u1) rfl 42 _ _ rfl (w.heap.size) 3 rfl 42 _ #[.int .i64 3, .int .i64 0, .int .i64 a] rfl qu1 (by kernel_rfl) rfl rfl (by kernel_rfl) ?_; intro u2 qu2 gu2 zu2))
    exact bodyPost_ret (results_blk rfl _ _ w.heap.size 3 _ _ rfl qu2 _ Tryd.underlying42 rfl (by kernel_rfl) rfl) rfl ⟨rfl, ((Below.refl _ w).grown gu1 (Nat.le_refl _) (by simp)).grown gu2 gu1.size (fun r e => by cases e; exact Nat.le_refl _)⟩
  · have hdec : decide (r = 0) = false := decide_eq_false hr
    rw [show behP 3 5 r a = ⟨5, r, a⟩ from if_neg hr]
    clear hr
    go_enter Tryd.func49, Tryd.ntmps49
    go_wp2_with (first
      | (refine wpList_alloc_blk (w := w) rfl 42 rfl #[.int .i64 0, .int .i64 0, .int .i64 0] (by kernel_rfl) ?_; intro u1 qu1 gu1 zu1)
      | (refine Held.wpList_run (w := u1) rfl (v := .bool false) (Held.y_eqI (S := fun _ => True) rfl rfl rfl hdec _ trivial) ?_)
      | (refine wpList_build_blk rfl 42 #[_, _, _] rfl #[.int .i64 5, .int .i64 r, .int .i64 a] (by kernel_rfl) ?_)
      | (refine wpList_store_blk (w := u1) rfl 42 _ _ rfl (w.heap.size) 3 rfl 42 _ #[.int .i64 5, .int .i64 r, .int .i64 a] rfl qu1 (by kernel_rfl) rfl rfl (by kernel_rfl) ?_; intro u2 qu2 gu2 zu2))
    exact bodyPost_ret (results_blk rfl _ _ w.heap.size 3 _ _ rfl qu2 _ Tryd.underlying42 rfl (by kernel_rfl) rfl) rfl ⟨rfl, ((Below.refl _ w).grown gu1 (Nat.le_refl _) (by simp)).grown gu2 gu1.size (fun r e => by cases e; exact Nat.le_refl _)⟩
theorem own_row {w' : World} {B g n : Nat} {zs : List Int} (r : Row w' g 3 .i64 zs) (hB : B ≤ g) (hn : zs.length = n) (hm : n ≤ 100) : Mem.Own w' B 3 .i64 (.slice (some ⟨g, 0, none⟩) n n) zs := by
  subst hn
  have := r.own (base := B) hB (n := zs.length) (Nat.le_refl _) (by unfold maxLen; omega)
  rwa [List.take_length] at this
set_option maxRecDepth 100000 in
set_option maxHeartbeats 4000000 in
theorem phases_any (kd : Int) (h1 : 1 ≤ kd) (h5 : kd ≤ 5) (w : World) :
    Calls Tryd.prog 47 #[.int .i64 kd] w fun e w' => ∃ A n c, e = .returned (.slice A n c) ∧ Hid ((phasesT kd).length = n) ∧ Mem.Own w' w.heap.size 3 .i64 (.slice A n c) (phasesT kd) ∧ Below w.heap.size w w' := by
  have hc : kd = 1 ∨ kd = 2 ∨ kd = 3 ∨ kd = 4 ∨ kd = 5 := by omega
  rcases hc with rfl | rfl | rfl | rfl | rfl
  · rw [show phasesT 1 = [1] by decide]
    go_enter Tryd.func47, Tryd.ntmps47
    go_wp2_with (first
      | (refine Held.wpList_build_row (w := w) rfl 30 3 1 _ rfl .i64 8 [1] Tryd.underlying30 Bi.info_int (by simp [Act.eval]) rfl (by omega) (by omega) (by decide) ?_; intro u1 ru1 gu1 zu1))
    go_ret
    exact ⟨_, _, _, rfl, Lib.hid rfl, own_row ru1 (Nat.le_refl _) rfl (by omega), (Below.refl _ w).grown gu1 (Nat.le_refl _) (by simp)⟩
  · rw [show phasesT 2 = [1] by decide]
    go_enter Tryd.func47, Tryd.ntmps47
    go_wp2_with (first
      | (refine Held.wpList_build_row (w := w) rfl 30 3 1 _ rfl .i64 8 [1] Tryd.underlying30 Bi.info_int (by simp [Act.eval]) rfl (by omega) (by omega) (by decide) ?_; intro u1 ru1 gu1 zu1))
    go_ret
    exact ⟨_, _, _, rfl, Lib.hid rfl, own_row ru1 (Nat.le_refl _) rfl (by omega), (Below.refl _ w).grown gu1 (Nat.le_refl _) (by simp)⟩
  · rw [show phasesT 3 = [2] by decide]
    go_enter Tryd.func47, Tryd.ntmps47
    go_wp2_with (first
      | (refine Held.wpList_build_row (w := w) rfl 30 3 1 _ rfl .i64 8 [2] Tryd.underlying30 Bi.info_int (by simp [Act.eval]) rfl (by omega) (by omega) (by decide) ?_; intro u1 ru1 gu1 zu1))
    go_ret
    exact ⟨_, _, _, rfl, Lib.hid rfl, own_row ru1 (Nat.le_refl _) rfl (by omega), (Below.refl _ w).grown gu1 (Nat.le_refl _) (by simp)⟩
  · rw [show phasesT 4 = [3, 4] by decide]
    go_enter Tryd.func47, Tryd.ntmps47
    go_wp2_with (first
      | (refine Held.wpList_build_row (w := w) rfl 30 3 2 _ rfl .i64 8 [3, 4] Tryd.underlying30 Bi.info_int (by simp [Act.eval]) rfl (by omega) (by omega) (by decide) ?_; intro u1 ru1 gu1 zu1))
    go_ret
    exact ⟨_, _, _, rfl, Lib.hid rfl, own_row ru1 (Nat.le_refl _) rfl (by omega), (Below.refl _ w).grown gu1 (Nat.le_refl _) (by simp)⟩
  · rw [show phasesT 5 = [5] by decide]
    go_enter Tryd.func47, Tryd.ntmps47
    go_wp2_with (first
      | (refine Held.wpList_build_row (w := w) rfl 30 3 1 _ rfl .i64 8 [5] Tryd.underlying30 Bi.info_int (by simp [Act.eval]) rfl (by omega) (by omega) (by decide) ?_; intro u1 ru1 gu1 zu1))
    go_ret
    exact ⟨_, _, _, rfl, Lib.hid rfl, own_row ru1 (Nat.le_refl _) rfl (by omega), (Below.refl _ w).grown gu1 (Nat.le_refl _) (by simp)⟩
set_option maxRecDepth 100000 in
set_option maxHeartbeats 4000000 in
theorem addresses_any (K : Int) (I M : Nat) (kd rd a b : Int) (up : Bool) (hb : TkB ⟨kd, rd, a, b, up⟩) (hK : kd = 1 → 0 ≤ K ∧ K ≤ 4) (w : World) :
    Calls Tryd.prog 48 #[.agg #[.int .i64 K, .int .i64 (I : Int), .int .i64 (M : Int)], .agg #[.int .i64 kd, .int .i64 rd, .int .i64 a, .int .i64 b, .bool up]] w fun e w' => ∃ A n c, e = .returned (.slice A n c) ∧ Hid ((addrsT K ⟨kd, rd, a, b, up⟩).length = n) ∧ Mem.Own w' w.heap.size 3 .i64 (.slice A n c) (addrsT K ⟨kd, rd, a, b, up⟩) ∧ Below w.heap.size w w' := by
  have hwf := addrs_wf hb hK
  have ha0 : 0 ≤ a := hb.a0
  have ha1 : a ≤ 100 := hb.a99
  have hc : kd = 1 ∨ kd = 2 ∨ kd = 3 ∨ kd = 4 ∨ kd = 5 := by
    have h1 : 1 ≤ kd := hb.k1
    have h5 : kd ≤ 5 := hb.k5
    omega
  clear hb
  rcases hc with rfl | rfl | rfl | rfl | rfl
  · obtain ⟨hK0, hK4⟩ := hK rfl
    obtain ⟨KN, rfl⟩ : ∃ KN : Nat, K = (KN : Int) := ⟨K.toNat, by omega⟩
    have HA := Lib.hid (show addrsT (KN : Int) ⟨1, rd, a, b, up⟩ = (List.range KN).map (fun i : Nat => (KN : Int) * a + (i : Int)) by unfold addrsT; rw [if_pos rfl, Int.toNat_natCast])
    rw [HA.out] at hwf ⊢
    have hm0 : 0 ≤ (KN : Int) * a := Int.mul_nonneg hK0 ha0
    have hm1 : (KN : Int) * a ≤ 4 * 100 := Int.mul_le_mul hK4 ha1 ha0 (by omega)
    have HM := Lib.hid (show IntKind.i64.wrap ((KN : Int) * a) = (KN : Int) * a by rw [IntKind.wrap_i64]; omega)
    have HF := Lib.hid (fun i => show (List.range (i + 1)).map (fun i : Nat => (KN : Int) * a + (i : Int)) = (List.range i).map (fun i : Nat => (KN : Int) * a + (i : Int)) ++ [(KN : Int) * a + (i : Int)] by rw [List.range_succ, List.map_append]; rfl)
    have HL := Lib.hid (fun i => show ((List.range i).map (fun i : Nat => (KN : Int) * a + (i : Int))).length = i by simp)
    generalize hma : (KN : Int) * a = m at *
    have HMA := Lib.hid hma
    clear hma hK hwf HA
    go_enter Tryd.func48, Tryd.ntmps48
    go_wp2_with (first
      | (refine wpList_box_blk (w := w) rfl 62 _ rfl _ rfl ?_; intro u1 qu1 gu1 zu1)
      | (refine wpList_box_blk (w := u1) rfl 34 _ rfl _ rfl ?_; intro u2 qu2 gu2 zu2; have qj := qu1.grown gu2 (by simp); have cj := qj.cell (i := 0) rfl; have b3 : Below w.heap.size w u2 := ((Below.refl _ w).grown gu1 (Nat.le_refl _) (by simp)).grown gu2 gu1.size (by simp); have ca0 := qu2.cell (i := 0) rfl; have ca2 := qu2.cell (i := 2) rfl; have ca3 := qu2.cell (i := 3) rfl)
      | (refine wpList_fld0 (w := u2) rfl rfl rfl Tryd.underlying34 rfl (by kernel_rfl) ?_)
      | (refine wpList_fld0 (w := u2) rfl rfl rfl Tryd.underlying62 rfl (by kernel_rfl) ?_))
    have lj := qj.lt
    have ly := qu2.lt
    have hs2 := b3.size
    have hw1 : w.heap.size ≤ u1.heap.size := gu1.size
    clear gu1 gu2 zu1 zu2 qu1 ca0 ca2 ca3 cj
    generalize u1.heap.size = bt at *
    go_loopw [5, 6, 13] (fun v u i wr => ∃ k : Nat, k ≤ KN ∧ i = .int .i64 k ∧ Mem.Own wr u2.heap.size 3 .i64 v ((List.range k).map (fun i : Nat => m + (i : Int))) ∧ Blk wr w.heap.size 62 #[.int .i64 (KN : Int), .int .i64 (I : Int), .int .i64 (M : Int)] ∧ Blk wr bt 34 #[.int .i64 1, .int .i64 rd, .int .i64 a, .int .i64 b, .bool up] ∧ Below w.heap.size w wr ∧ u2.heap.size ≤ wr.heap.size) (fun _ _ i _ => KN - (intOf i).toNat)
    case atStart => exact ⟨0, by omega, rfl, Mem.Own.nil _ _ _ _, qj, qu2, b3, Nat.le_refl _⟩
    case round =>
      clear qj qu2 b3
      obtain ⟨k, hk, rfl, hown, qj, qt, bw, hz⟩ := hrel
      obtain ⟨A1, c1, rfl, _, _, _⟩ := hown.form
      rw [HL.out k] at hown ⊢
      by_cases hlt : k < KN
      · have hlt' : (k : Int) < (KN : Int) := by omega
        have cj := qj.cell (i := 0) rfl
        have ca := qt.cell (i := 2) rfl
        have hadd : IntKind.i64.wrap (m + (k : Int)) = m + (k : Int) := by rw [IntKind.wrap_i64]; omega
        have wk : ∀ x ∈ [m + (k : Int)], (Lit.int .i64 x).wf = true := by intro x hx; rw [List.mem_singleton] at hx; rw [hx]; exact lit_wf (by omega) (by omega)
        go_wp2_with (first
          | (refine wpList_fld0 (w := wr) rfl rfl rfl Tryd.underlying34 rfl (by kernel_rfl) ?_)
          | (refine wpList_fld0 (w := wr) rfl rfl rfl Tryd.underlying62 rfl (by kernel_rfl) ?_)
          | (refine Held.wpList_run (w := wr) rfl (v := .int .i64 m) (Held.y_int (S := fun _ => True) (a := (KN : Int)) (b := a) rfl rfl rfl (fun W => Held.run_mul 3 .i64 (by rw [HMA.out]; exact HM.out) W) _ trivial) ?_)
          | (refine Held.wpList_build_row (w := wr) rfl 30 3 1 _ rfl .i64 8 [m + (k : Int)] Tryd.underlying30 Bi.info_int (by simp [Act.eval]) rfl (by omega) (by omega) wk ?_; intro w3 r3 g3 z3; have o3 := hown.kept g3 (by cases (Value.slice A1 k c1).ownBlock <;> simp); have i3 : Ints w3 .i64 w3.heap.size (some ⟨wr.heap.size, 0, none⟩) 1 [m + (k : Int)] := r3.ints (n := 1) (by simp))
          | (at_builtin; refine wpList_append_ints w3 rfl _ _ 30 rfl u2.heap.size 3 .i64 8 Tryd.underlying30 Bi.info_int (.slice A1 k c1) _ rfl o3 w3.heap.size (some ⟨wr.heap.size, 0, none⟩) 1 1 [m + (k : Int)] rfl i3 (by rw [HL.out]; omega) (by omega) (by have := g3.size; omega) ?_; intro v4 w4 o4 g4 t4))
        obtain ⟨A4, c4, rfl, _, _, _⟩ := o4.form
        have hs3 := g3.size
        have hs4 := g4.size
        have ow := fun r (e : (Value.slice A1 k c1).ownBlock = some r) => o3.2.lt r e
        go_roundw
        case rel => exact ⟨k + 1, by omega, by go_num, by rw [HF.out]; exact o4, (qj.grown g3 (by simp)).grown g4 (fun e => by have := (ow _ e.symm).1; omega), (qt.grown g3 (by simp)).grown g4 (fun e => by have := (ow _ e.symm).1; omega), (bw.grown g3 bw.size (by simp)).grown g4 (by have := bw.size; omega) (fun r e => by have := (ow _ e).1; omega), by omega⟩
        case measure => simp [intOf]; omega
      · obtain rfl : k = KN := by omega
        have cj := qj.cell (i := 0) rfl
        go_wp2_with fail
        go_ret
        exact ⟨_, _, _, rfl, HL.out k |> Lib.hid, hown.less (by omega), bw⟩
  · rw [show addrsT K ⟨2, rd, a, b, up⟩ = [a] by unfold addrsT; rw [if_neg (by simp), if_neg (by simp)]] at hwf ⊢
    go_enter Tryd.func48, Tryd.ntmps48
    go_wp2_with (first
      | (refine wpList_box_blk (w := w) rfl 62 _ rfl _ rfl ?_; intro u1 qu1 gu1 zu1)
      | (refine wpList_box_blk (w := u1) rfl 34 _ rfl _ rfl ?_; intro u2 qu2 gu2 zu2; have b3 : Below w.heap.size w u2 := ((Below.refl _ w).grown gu1 (Nat.le_refl _) (by simp)).grown gu2 gu1.size (by simp); have ca0 := qu2.cell (i := 0) rfl; have ca2 := qu2.cell (i := 2) rfl; have ca3 := qu2.cell (i := 3) rfl)
      | (refine wpList_fld0 (w := u2) rfl rfl rfl Tryd.underlying34 rfl (by kernel_rfl) ?_)
      | (refine Held.wpList_build_row (w := u2) rfl 30 3 1 _ rfl .i64 8 [a] Tryd.underlying30 Bi.info_int (by simp [Act.eval]) rfl (by omega) (by omega) hwf ?_; intro u3 ru3 gu3 zu3))
    go_ret
    exact ⟨_, _, _, rfl, Lib.hid rfl, own_row ru3 b3.size rfl (by omega), b3.grown gu3 b3.size (by simp)⟩
  · rw [show addrsT K ⟨3, rd, a, b, up⟩ = [a, b] by unfold addrsT; rw [if_neg (by simp), if_pos (by simp)]] at hwf ⊢
    go_enter Tryd.func48, Tryd.ntmps48
    go_wp2_with (first
      | (refine wpList_box_blk (w := w) rfl 62 _ rfl _ rfl ?_; intro u1 qu1 gu1 zu1)
      | (refine wpList_box_blk (w := u1) rfl 34 _ rfl _ rfl ?_; intro u2 qu2 gu2 zu2; have b3 : Below w.heap.size w u2 := ((Below.refl _ w).grown gu1 (Nat.le_refl _) (by simp)).grown gu2 gu1.size (by simp); have ca0 := qu2.cell (i := 0) rfl; have ca2 := qu2.cell (i := 2) rfl; have ca3 := qu2.cell (i := 3) rfl)
      | (refine wpList_fld0 (w := u2) rfl rfl rfl Tryd.underlying34 rfl (by kernel_rfl) ?_)
      | (refine Held.wpList_build_row (w := u2) rfl 30 3 2 _ rfl .i64 8 [a, b] Tryd.underlying30 Bi.info_int (by simp [Act.eval]) rfl (by omega) (by omega) hwf ?_; intro u3 ru3 gu3 zu3))
    go_ret
    exact ⟨_, _, _, rfl, Lib.hid rfl, own_row ru3 b3.size rfl (by omega), b3.grown gu3 b3.size (by simp)⟩
  · rw [show addrsT K ⟨4, rd, a, b, up⟩ = [a] by unfold addrsT; rw [if_neg (by simp), if_neg (by simp)]] at hwf ⊢
    go_enter Tryd.func48, Tryd.ntmps48
    go_wp2_with (first
      | (refine wpList_box_blk (w := w) rfl 62 _ rfl _ rfl ?_; intro u1 qu1 gu1 zu1)
      | (refine wpList_box_blk (w := u1) rfl 34 _ rfl _ rfl ?_; intro u2 qu2 gu2 zu2; have b3 : Below w.heap.size w u2 := ((Below.refl _ w).grown gu1 (Nat.le_refl _) (by simp)).grown gu2 gu1.size (by simp); have ca0 := qu2.cell (i := 0) rfl; have ca2 := qu2.cell (i := 2) rfl; have ca3 := qu2.cell (i := 3) rfl)
      | (refine wpList_fld0 (w := u2) rfl rfl rfl Tryd.underlying34 rfl (by kernel_rfl) ?_)
      | (refine Held.wpList_build_row (w := u2) rfl 30 3 1 _ rfl .i64 8 [a] Tryd.underlying30 Bi.info_int (by simp [Act.eval]) rfl (by omega) (by omega) hwf ?_; intro u3 ru3 gu3 zu3))
    go_ret
    exact ⟨_, _, _, rfl, Lib.hid rfl, own_row ru3 b3.size rfl (by omega), b3.grown gu3 b3.size (by simp)⟩
  · rw [show addrsT K ⟨5, rd, a, b, up⟩ = [a, b] by unfold addrsT; rw [if_neg (by simp), if_pos (by simp)]] at hwf ⊢
    go_enter Tryd.func48, Tryd.ntmps48
    go_wp2_with (first
      | (refine wpList_box_blk (w := w) rfl 62 _ rfl _ rfl ?_; intro u1 qu1 gu1 zu1)
      | (refine wpList_box_blk (w := u1) rfl 34 _ rfl _ rfl ?_; intro u2 qu2 gu2 zu2; have b3 : Below w.heap.size w u2 := ((Below.refl _ w).grown gu1 (Nat.le_refl _) (by simp)).grown gu2 gu1.size (by simp); have ca0 := qu2.cell (i := 0) rfl; have ca2 := qu2.cell (i := 2) rfl; have ca3 := qu2.cell (i := 3) rfl)
      | (refine wpList_fld0 (w := u2) rfl rfl rfl Tryd.underlying34 rfl (by kernel_rfl) ?_)
      | (refine Held.wpList_build_row (w := u2) rfl 30 3 2 _ rfl .i64 8 [a, b] Tryd.underlying30 Bi.info_int (by simp [Act.eval]) rfl (by omega) (by omega) hwf ?_; intro u3 ru3 gu3 zu3))
    go_ret
    exact ⟨_, _, _, rfl, Lib.hid rfl, own_row ru3 b3.size rfl (by omega), b3.grown gu3 b3.size (by simp)⟩
def ixF (x : Int) : Nat → List Int → Int
  | _, [] => -1
  | n, z :: l => if x = z then (n : Int) else ixF x (n + 1) l
theorem ixF_some {x : Int} : ∀ (l : List Int) (c i : Nat), i < l.length → x = l.getD i 0 → x ∉ l.take i → ixF x c l = ((c + i : Nat) : Int)
  | [], _, _, h, _, _ => by simp at h
  | z :: l, c, 0, _, h, _ => by
    unfold ixF
    rw [if_pos (by simpa using h)]
    simp
  | z :: l, c, i + 1, h, e, hn => by
    unfold ixF
    simp only [List.take_succ_cons, List.mem_cons, not_or] at hn
    rw [if_neg hn.1, ixF_some l (c + 1) i (by simpa using h) (by simpa using e) hn.2]
    congr 1
    omega
theorem ixF_none {x : Int} : ∀ (l : List Int) (c : Nat), x ∉ l → ixF x c l = -1
  | [], _, _ => rfl
  | z :: l, c, hn => by
    simp only [List.mem_cons, not_or] at hn
    unfold ixF
    rw [if_neg hn.1, ixF_none l (c + 1) hn.2]
theorem ixF_says {x : Int} : ∀ (l : List Int) (c : Nat), (0 ≤ ixF x c l) ↔ x ∈ l
  | [], c => by simp [ixF]
  | z :: l, c => by
    unfold ixF
    split
    · rename_i h
      simp [h]
    · rename_i h
      rw [ixF_says l (c + 1)]
      simp [h]
set_option maxRecDepth 100000 in
set_option maxHeartbeats 4000000 in
theorem index_any (B : Nat) (A : Option Addr) (n c : Nat) (zs : List Int) (x : Int) (w : World) (h : Ints w .i64 B A n zs) (hn : n ≤ 1000000) :
    Calls Tryd.prog 62 #[.slice A n c, .int .i64 x] w fun e w' => e = .returned (.int .i64 (ixF x 0 zs)) ∧ w = w' := by
  have HL := Lib.hid h.1
  go_enter Tryd.func62, Tryd.ntmps62
  go_wp2_with fail
  go_loopw [5, 8] (fun u i wr => ∃ k : Nat, k ≤ n ∧ i = .int .i64 k ∧ Hid (x ∉ zs.take k) ∧ w = wr) (fun _ i _ => n - (intOf i).toNat)
  case atStart => exact ⟨0, by omega, rfl, Lib.hid (by simp), rfl⟩
  case round =>
    obtain ⟨k, hk, rfl, hno, rfl⟩ := hrel
    by_cases hlt : k < n
    · obtain ⟨b, off, rfl, hb, hc⟩ := h.at_ hlt
      have hlt' : (k : Int) < (n : Int) := by omega
      have hk0 : (0 : Int) ≤ (k : Int) := by omega
      have hadd : IntKind.i64.wrap ((k : Int) + 1) = (k : Int) + 1 := by rw [IntKind.wrap_i64]; omega
      by_cases hq : x = zs.getD k 0
      · have HR := Lib.hid (show ixF x 0 zs = (k : Int) by
          have := ixF_some zs 0 k (by have := HL.out; omega) hq hno.out
          rwa [Nat.zero_add] at this)
        have hdec : decide (x = zs.getD k 0) = true := decide_eq_true hq
        clear hq
        generalize zs.getD k 0 = z at *
        go_wp2_with (first
          | (refine Held.wpList_run (w := w) rfl (v := .bool true) (Held.y_eqI (S := fun _ => True) rfl rfl rfl hdec _ trivial) ?_))
        go_ret
        exact ⟨(by rw [HR.out]; rfl), rfl⟩
      · have HT := Lib.hid (show x ∉ zs.take (k + 1) by
          have hl := HL.out
          rw [List.take_add_one, List.getElem?_eq_getElem (by omega)]
          rw [List.getD_eq_getElem?_getD, List.getElem?_eq_getElem (by omega)] at hq
          simp only [Option.toList_some, List.mem_append, List.mem_singleton, not_or]
          exact ⟨hno.out, hq⟩)
        have hdec : decide (x = zs.getD k 0) = false := decide_eq_false hq
        clear hq
        generalize zs.getD k 0 = z at *
        go_wp2_with (first
          | (refine Held.wpList_run (w := w) rfl (v := .bool false) (Held.y_eqI (S := fun _ => True) rfl rfl rfl hdec _ trivial) ?_))
        go_roundw
        case rel => exact ⟨k + 1, by omega, by go_num, HT, trivial⟩
        case measure => simp [intOf]; omega
    · have HR := Lib.hid (show ixF x 0 zs = -1 from ixF_none zs 0 (by
        have := hno.out
        rwa [List.take_of_length_le (by have := HL.out; omega)] at this))
      go_wp2_with fail
      go_ret
      exact ⟨(by rw [HR.out]; rfl), rfl⟩
set_option maxRecDepth 100000 in
set_option maxHeartbeats 4000000 in
theorem contains_any (B : Nat) (A : Option Addr) (n c : Nat) (zs : List Int) (x : Int) (w : World) (h : Ints w .i64 B A n zs) (hn : n ≤ 1000000) :
    Calls Tryd.prog 46 #[.slice A n c, .int .i64 x] w fun e w' => e = .returned (.bool (decide (x ∈ zs))) ∧ w = w' := by
  have HS := Lib.hid (show decide (0 ≤ ixF x 0 zs) = decide (x ∈ zs) from decide_eq_decide.2 (ixF_says zs 0))
  have H := index_any B A n c zs x w h hn
  generalize ixF x 0 zs = q at *
  go_enter Tryd.func46, Tryd.ntmps46
  go_wp2_with fail
  refine H.mono ?_
  rintro e w1 ⟨rfl, rfl⟩
  go_wp2_with (first
    | (refine Held.wpList_run (w := w) rfl (v := .bool (decide (x ∈ zs))) (Sp.y_geq (S := fun _ => True) rfl rfl rfl HS.out _ trivial) ?_))
  go_ret
  exact ⟨rfl, rfl⟩
end Go.Proofs.YtipmfficjomcoaaDoor.Sh
namespace Go.Proofs.YtipmfficjomcoaaDoor.Sl
open Go.RowKit Go.Shelf Mem Held
section
variable {α : Type} {k : St α} {P : Program} {ops : Array Oper} {o : Oper} {a : Act} {w : World} {Q : Exit → Act → World → Prop}
theorem op_build_lst (i : Nat) (d : Option Tmp) {K : Act → World → Prop} (ts e : TypeId) (n : Nat) {parts : Array (Nat × Operand)} (z : Value) (bytes : Nat) (xs : List α) (hi : ops[i]? = some o) (hd : o.dst = d) (hw : Region.wanted o (yielded ops a.tmps) = true)
    (ho : o.op = .buildSlice ts n parts) (hu : P.underlying ts = some (.slice e)) (hinfo : (P.info? e).map (fun i => (i.zero, i.size, i.bytes)) = some (some z, k.s, bytes)) (hz : z.cells.size = k.s)
    (hn : xs.length = n) (hp : (parts.map fun (i, x) => (i, a.eval x)).toList = ((xs.map fun x => Value.agg (k.cells x).toArray).zipIdx 0).map fun x => (x.2, x.1)) (h0 : 0 < n) (h24 : n * k.s ≤ 16777216)
    (h : ∀ g w', Blk w' g e (flat k xs).toArray → Below w.heap.size w w' → Hid (w.heap.size ≤ g) → K (a.put d (.slice (some ⟨g, 0, none⟩) n n)) w') : wpOp P ops Q i K a w := by
  subst hd
  refine op_wp i hi hw ?_
  obtain ⟨ie, hie, hz0, hs, hb⟩ := info_parts hinfo
  refine Go.wp_buildSlice ts e n parts ho (flat k xs).toArray ie z hu hie hz0 (by rw [hs]; omega) (by rw [hs]; have := Nat.mul_pos h0 k.pos; omega) ?_ (h _ _ (heap_alloc_new w _) ((Below.refl _ w).alloc (Nat.le_refl _) _) (Lib.hid (Nat.le_refl _)))
  rw [hp, hs]
  refine (Great.fill_whole k.pos (xs.map fun x => Value.agg (k.cells x).toArray) _ (fun v hv => ?_) (by simp [hn])).trans ?_
  · obtain ⟨x, _, rfl⟩ := List.mem_map.1 hv
    simp [Value.cells, k.len]
  · rw [List.flatMap_map]
    simp [flat, Value.cells]
end
end Go.Proofs.YtipmfficjomcoaaDoor.Sl
namespace Go.Proofs.YtipmfficjomcoaaDoor.Sh
open Go.RowKit Go.Shelf Mem Held Go.Proofs.YtipmfficjomcoaaDoor.Range Sl
attribute [local go_sem] Oper.semAt_some
attribute [local irreducible] wpList wpListIn Calls
theorem info_spot : (Tryd.prog.info? 42).map (fun i => (i.zero, i.size, i.bytes)) = some (some (.agg #[.int .i64 0, .int .i64 0, .int .i64 0]), kS.s, 24) := by kernel_rfl
theorem own_lst {w' : World} {B g n : Nat} {xs : List Sp} (h : Blk w' g 42 (flat kS xs).toArray) (hB : B ≤ g) (hn : xs.length = n) (hm : n ≤ 100) : OwnL kS 42 w' B (.slice (some ⟨g, 0, none⟩) n n) xs := by
  subst hn
  exact own_of_blk h hB (by unfold maxLen; omega)
set_option maxRecDepth 100000 in
set_option maxHeartbeats 8000000 in
theorem reads_any (K : Int) (I mp M T : Nat) (kd rd a b : Int) (up : Bool) (h : JobP K I mp M T) (hb : TkB ⟨kd, rd, a, b, up⟩) (w : World) (hT : Bi.TzT w) :
    Calls Tryd.prog 42 #[.agg #[.int .i64 K, .int .i64 (I : Int), .int .i64 (M : Int)], .agg #[.int .i64 kd, .int .i64 rd, .int .i64 a, .int .i64 b, .bool up]] w fun e w' => ∃ A n c, e = .returned (.slice A n c) ∧ Hid ((readsT (T : Int) ⟨kd, rd, a, b, up⟩).length = n) ∧ OwnL kS 42 w' w.heap.size (.slice A n c) (readsT (T : Int) ⟨kd, rd, a, b, up⟩) ∧ Below w.heap.size w w' := by
  have ha0 : 0 ≤ a := hb.a0
  have ha1 : a ≤ 100 := hb.a99
  have hr0 : 0 ≤ rd := hb.r0
  have hr1 : rd ≤ 15 := hb.r15
  have HS := Lib.hid (show IntKind.i64.wrap (rd - 1) = rd - 1 by rw [IntKind.wrap_i64]; omega)
  have hwf := reads_wf hb (show (0 : Int) ≤ (T : Int) by omega) (by have := h.t15; omega)
  have hc : kd = 1 ∨ kd = 2 ∨ kd = 3 ∨ kd = 4 ∨ kd = 5 := by
    have h1 : 1 ≤ kd := hb.k1
    have h5 : kd ≤ 5 := hb.k5
    omega
  clear hb
  rcases hc with rfl | rfl | rfl | rfl | rfl
  · rw [show readsT (T : Int) ⟨1, rd, a, b, up⟩ = [⟨0, 0, a⟩] from if_pos rfl]
    go_enter Tryd.func42, Tryd.ntmps42
    go_wp2_with (first
      | (refine wpList_box_blk (w := w) rfl 62 _ rfl _ rfl ?_; intro u1 qu1 gu1 zu1)
      | (refine wpList_box_blk (w := u1) rfl 34 _ rfl _ rfl ?_; intro u2 qu2 gu2 zu2; have bo3 : Below w.heap.size w u2 := ((Below.refl _ w).grown gu1 (Nat.le_refl _) (by simp)).grown gu2 gu1.size (by simp); have qj := qu1.grown gu2 (by simp); have ca0 := qu2.cell (i := 0) rfl; have ca2 := qu2.cell (i := 2) rfl)
      | (refine wpList_fld0 (w := u2) rfl rfl rfl Tryd.underlying34 rfl (by kernel_rfl) ?_)
      | (refine wpList_build_blk rfl 42 #[_, _] rfl #[.int .i64 0, .int .i64 0, .int .i64 a] (by kernel_rfl) ?_)
      | (refine wpList_build_lst (k := kS) (w := u2) rfl 47 42 1 _ rfl Tryd.underlying47 _ 24 info_spot rfl [⟨0, 0, a⟩] rfl (by kernel_rfl) (by omega) (by decide) ?_; intro u3 qu3 gu3 zu3))
    go_ret
    exact ⟨_, _, _, rfl, Lib.hid rfl, own_lst qu3 bo3.size rfl (by omega), bo3.grown gu3 bo3.size (by simp)⟩
  · rw [show readsT (T : Int) ⟨2, rd, a, b, up⟩ = [] from rfl]
    go_enter Tryd.func42, Tryd.ntmps42
    go_wp2_with (first
      | (refine wpList_box_blk (w := w) rfl 62 _ rfl _ rfl ?_; intro u1 qu1 gu1 zu1)
      | (refine wpList_box_blk (w := u1) rfl 34 _ rfl _ rfl ?_; intro u2 qu2 gu2 zu2; have bo3 : Below w.heap.size w u2 := ((Below.refl _ w).grown gu1 (Nat.le_refl _) (by simp)).grown gu2 gu1.size (by simp); have qj := qu1.grown gu2 (by simp); have ca0 := qu2.cell (i := 0) rfl; have ca2 := qu2.cell (i := 2) rfl)
      | (refine wpList_fld0 (w := u2) rfl rfl rfl Tryd.underlying34 rfl (by kernel_rfl) ?_))
    go_ret
    exact ⟨_, _, _, rfl, Lib.hid rfl, OwnL.nil _ _ _ _, bo3⟩
  · rw [show readsT (T : Int) ⟨3, rd, a, b, up⟩ = [behP 1 2 (rd - 1) a, behP 1 2 (rd - 1) b] from rfl]
    go_enter Tryd.func42, Tryd.ntmps42
    go_wp2_with (first
      | (refine wpList_box_blk (w := w) rfl 62 _ rfl _ rfl ?_; intro u1 qu1 gu1 zu1)
      | (refine wpList_box_blk (w := u1) rfl 34 _ rfl _ rfl ?_; intro u2 qu2 gu2 zu2; have bo3 : Below w.heap.size w u2 := ((Below.refl _ w).grown gu1 (Nat.le_refl _) (by simp)).grown gu2 gu1.size (by simp); have qj := qu1.grown gu2 (by simp); have ca0 := qu2.cell (i := 0) rfl; have ca2 := qu2.cell (i := 2) rfl)
      | (refine wpList_fld0 (w := u2) rfl rfl rfl Tryd.underlying34 rfl (by kernel_rfl) ?_))
    refine wp_region_held (S := fun W => Below u2.heap.size u2 W) (by kernel_rfl) ?_
    change wpAnyH _ _ _ _ _ _ _ _ u2.drew
    have c0_0 := (Below.refl u2.heap.size u2).drew
    refine Held.tk (v := .pointer (some ⟨u1.heap.size, 1, none⟩)) 0 (some 16) rfl (Held.y_field (k := 1) (s := 0) rfl rfl Tryd.underlying34 rfl (by kernel_rfl) rfl) c0_0 ?_
    simp only [Act.put, Z1, Z2, Z3]
    refine Held.tk (v := .int .i64 rd) 1 (some 17) rfl (Held.y_load rfl rfl (by kernel_rfl) (fun W hW => (qu2.after hW).cell rfl)) c0_0 ?_
    simp only [Act.put, Z1, Z2, Z3]
    refine Held.tk (v := .int .i64 ((rd - 1))) 2 (some 18) rfl (Held.y_int rfl rfl rfl (Held.run_sub 3 .i64 (HS.out))) c0_0 ?_
    simp only [Act.put, Z1, Z2, Z3]
    refine Held.tk (v := .pointer (some ⟨u1.heap.size, 2, none⟩)) 3 (some 19) rfl (Held.y_field (k := 2) (s := 0) rfl rfl Tryd.underlying34 rfl (by kernel_rfl) rfl) c0_0 ?_
    simp only [Act.put, Z1, Z2, Z3]
    refine Held.tk (v := .int .i64 a) 4 (some 20) rfl (Held.y_load rfl rfl (by kernel_rfl) (fun W hW => (qu2.after hW).cell rfl)) c0_0 ?_
    simp only [Act.put, Z1, Z2, Z3]
    refine Held.tk (v := .pointer (some ⟨u1.heap.size, 1, none⟩)) 6 (some 22) rfl (Held.y_field (k := 1) (s := 0) rfl rfl Tryd.underlying34 rfl (by kernel_rfl) rfl) c0_0 ?_
    simp only [Act.put, Z1, Z2, Z3]
    refine Held.tk (v := .int .i64 rd) 7 (some 23) rfl (Held.y_load rfl rfl (by kernel_rfl) (fun W hW => (qu2.after hW).cell rfl)) c0_0 ?_
    simp only [Act.put, Z1, Z2, Z3]
    refine Held.tk (v := .int .i64 ((rd - 1))) 8 (some 24) rfl (Held.y_int rfl rfl rfl (Held.run_sub 3 .i64 (HS.out))) c0_0 ?_
    simp only [Act.put, Z1, Z2, Z3]
    refine Held.tk (v := .pointer (some ⟨u1.heap.size, 3, none⟩)) 9 (some 25) rfl (Held.y_field (k := 3) (s := 0) rfl rfl Tryd.underlying34 rfl (by kernel_rfl) rfl) c0_0 ?_
    simp only [Act.put, Z1, Z2, Z3]
    refine Held.tk (v := .int .i64 b) 10 (some 26) rfl (Held.y_load rfl rfl (by kernel_rfl) (fun W hW => (qu2.after hW).cell rfl)) c0_0 ?_
    simp only [Act.put, Z1, Z2, Z3]
    refine Held.one 5 (by kernel_rfl) ?_
    refine Held.op_call 5 (some 21) 61 #[.int .i64 ((rd - 1)), .int .i64 a] rfl rfl rfl rfl (enters_of Tryd.func61 (by kernel_rfl) rfl) (by simp [Act.eval])
      (sorted_any (rd - 1) a _) ?_
    rintro e w1 ⟨rfl, b1⟩
    have c0_1 := c0_0.trans (b1.mono c0_0.size)
    refine ⟨_, rfl, c0_1, ?_⟩
    simp only [Act.put, Z1, Z2, Z3]
    refine Held.one 11 (by kernel_rfl) ?_
    refine Held.op_call 11 (some 27) 61 #[.int .i64 ((rd - 1)), .int .i64 b] rfl rfl rfl rfl (enters_of Tryd.func61 (by kernel_rfl) rfl) (by simp [Act.eval])
      (sorted_any (rd - 1) b _) ?_
    rintro e w2 ⟨rfl, b2⟩
    have c0_2 := c0_1.trans (b2.mono c0_1.size)
    refine ⟨_, rfl, c0_2, ?_⟩
    simp only [Act.put, Z1, Z2, Z3]
    refine Held.one 12 (by kernel_rfl) ?_
    refine op_build_lst (k := kS) 12 (some 28) 47 42 2 _ 24 [behP 1 2 (rd - 1) a, behP 1 2 (rd - 1) b] rfl rfl rfl rfl Tryd.underlying47 info_spot rfl rfl (by simp [Act.eval, kS, Sp.cells, spV]) (by omega) (by decide) ?_
    intro gl w3 ql b3 hgl
    have c0_3 := c0_2.trans (b3.mono c0_2.size)
    refine ⟨c0_3, ?_⟩
    simp only [Act.put, Z1, Z2, Z3]
    refine Held.tk (v := .slice (some ⟨gl, 0, none⟩) 2 2) 13 (some 4) rfl (Held.y_assign rfl rfl) c0_3 ?_
    simp only [Act.put, Z1, Z2, Z3]
    refine wpAnyH_done (by kernel_rfl) ?_ _
    have bz := bo3.trans (c0_3.mono bo3.size)
    have hgl2 := Nat.le_trans (Nat.le_trans bo3.size c0_2.size) hgl.out
    go_wp2_with fail
    go_ret
    exact ⟨_, _, _, rfl, Lib.hid rfl, own_lst ql hgl2 rfl (by omega), bz⟩
  · have HB1 := Lib.hid (fun (h : (0 : Int) < a) => show readsT (T : Int) ⟨4, rd, a, b, up⟩ = [behP 1 2 (T : Int) a] ++ [⟨4, 0, a - 1⟩] by unfold readsT; rw [if_neg (by simp), if_neg (by simp), if_pos rfl, if_pos h]; rfl)
    have HB0 := Lib.hid (fun (h : ¬ (0 : Int) < a) => show readsT (T : Int) ⟨4, rd, a, b, up⟩ = [behP 1 2 (T : Int) a] by unfold readsT; rw [if_neg (by simp), if_neg (by simp), if_pos rfl, if_neg h])
    have hw1 : ∀ s ∈ [behP 1 2 (T : Int) a], s.wf := fun s hs => hwf s (by unfold readsT; rw [if_neg (by simp), if_neg (by simp), if_pos rfl]; rw [List.mem_singleton] at hs; subst hs; exact List.mem_cons_self)
    clear hwf
    by_cases hpos : (0 : Int) < a
    · rw [HB1.out hpos]
      have hsub : IntKind.i64.wrap (a - 1) = a - 1 := by rw [IntKind.wrap_i64]; omega
      have wf4 : ∀ s ∈ [(⟨4, 0, a - 1⟩ : Sp)], s.wf := fun s hs => by rw [List.mem_singleton] at hs; subst hs; exact sp_mk (by decide) (by decide) (lit_wf (by omega) (by omega))
      clear HB1 HB0
      go_enter Tryd.func42, Tryd.ntmps42
      go_wp2_with (first
        | (refine wpList_box_blk (w := w) rfl 62 _ rfl _ rfl ?_; intro u1 qu1 gu1 zu1)
        | (refine wpList_box_blk (w := u1) rfl 34 _ rfl _ rfl ?_; intro u2 qu2 gu2 zu2; have bo3 : Below w.heap.size w u2 := ((Below.refl _ w).grown gu1 (Nat.le_refl _) (by simp)).grown gu2 gu1.size (by simp); have qj := qu1.grown gu2 (by simp); have ca0 := qu2.cell (i := 0) rfl; have ca2 := qu2.cell (i := 2) rfl)
        | (refine wpList_fld0 (w := u2) rfl rfl rfl Tryd.underlying34 rfl (by kernel_rfl) ?_))
      refine wp_region_held (S := fun W => Below u2.heap.size u2 W) (by kernel_rfl) ?_
      change wpAnyH _ _ _ _ _ _ _ _ u2.drew
      have c0_0 := (Below.refl u2.heap.size u2).drew
      refine Held.tk (v := .agg #[.int .i64 K, .int .i64 (I : Int), .int .i64 (M : Int)]) 0 (some 31) rfl (Held.y_load_blk (n := 3) rfl rfl Tryd.underlying62 rfl (by kernel_rfl) rfl (fun W hW => qj.after hW)) c0_0 ?_
      simp only [Act.put, Z1, Z2, Z3]
      refine Held.tk (v := .pointer (some ⟨u1.heap.size, 2, none⟩)) 2 (some 33) rfl (Held.y_field (k := 2) (s := 0) rfl rfl Tryd.underlying34 rfl (by kernel_rfl) rfl) c0_0 ?_
      simp only [Act.put, Z1, Z2, Z3]
      refine Held.tk (v := .int .i64 a) 3 (some 34) rfl (Held.y_load rfl rfl (by kernel_rfl) (fun W hW => (qu2.after hW).cell rfl)) c0_0 ?_
      simp only [Act.put, Z1, Z2, Z3]
      refine Held.one 1 (by kernel_rfl) ?_
      refine Held.op_call 1 (some 32) 50 #[.agg #[.int .i64 K, .int .i64 (I : Int), .int .i64 (M : Int)]] rfl rfl rfl rfl (enters_of Tryd.func50 (by kernel_rfl) rfl) (by simp [Act.eval])
        (nrounds_any K I mp M T h _ (hT.below (bo3.trans (c0_0.mono bo3.size)) hT.lt)) ?_
      rintro e w1 ⟨rfl, b1⟩
      have c0_1 := c0_0.trans (b1.mono c0_0.size)
      refine ⟨_, rfl, c0_1, ?_⟩
      simp only [Act.put, Z1, Z2, Z3]
      refine Held.one 4 (by kernel_rfl) ?_
      refine Held.op_call 4 (some 35) 61 #[.int .i64 (T : Int), .int .i64 a] rfl rfl rfl rfl (enters_of Tryd.func61 (by kernel_rfl) rfl) (by simp [Act.eval])
        (sorted_any (T : Int) a _) ?_
      rintro e w2 ⟨rfl, b2⟩
      have c0_2 := c0_1.trans (b2.mono c0_1.size)
      refine ⟨_, rfl, c0_2, ?_⟩
      simp only [Act.put, Z1, Z2, Z3]
      refine Held.one 5 (by kernel_rfl) ?_
      refine op_build_lst (k := kS) 5 (some 36) 47 42 1 _ 24 [behP 1 2 (T : Int) a] rfl rfl rfl rfl Tryd.underlying47 info_spot rfl rfl (by simp [Act.eval, kS, Sp.cells, spV]) (by omega) (by decide) ?_
      intro gl w3 ql b3 hgl
      have c0_3 := c0_2.trans (b3.mono c0_2.size)
      refine ⟨c0_3, ?_⟩
      simp only [Act.put, Z1, Z2, Z3]
      refine Held.tk (v := .slice (some ⟨gl, 0, none⟩) 1 1) 6 (some 5) rfl (Held.y_assign rfl rfl) c0_3 ?_
      simp only [Act.put, Z1, Z2, Z3]
      refine wpAnyH_done (by kernel_rfl) ?_ _
      have bz := bo3.trans (c0_3.mono bo3.size)
      have q9 := qu2.after c0_3
      have hgl2 := Nat.le_trans (Nat.le_trans bo3.size c0_2.size) hgl.out
      have ca9 := q9.cell (i := 2) rfl
      have o9 : OwnL kS 42 w3 w.heap.size (.slice (some ⟨gl, 0, none⟩) 1 1) [behP 1 2 (T : Int) a] := own_lst ql hgl2 rfl (by omega)
      have l9 := q9.lt
      have hw9 := bz.size
      clear ca0 ca2
      go_wp2_with (first
        | (refine wpList_fld0 (w := w3) rfl rfl rfl Tryd.underlying34 rfl (by kernel_rfl) ?_)
        | (refine wpList_build_blk rfl 42 #[_, _] rfl #[.int .i64 4, .int .i64 0, .int .i64 (a - 1)] (by kernel_rfl) ?_)
        | (refine wpList_build_lst (k := kS) (w := w3) rfl 47 42 1 _ rfl Tryd.underlying47 _ 24 info_spot rfl [⟨4, 0, a - 1⟩] rfl (by kernel_rfl) (by omega) (by decide) ?_; intro u5 qu5 gu5 zu5; have o5 := o9.kept gu5 (.inr (fun e => by cases e)); have l5 : Lst kS u5 u5.heap.size (some ⟨w3.heap.size, 0, none⟩) 1 [⟨4, 0, a - 1⟩] := lst_whole qu5 rfl wf4)
        | (at_builtin; refine wpList_append_lst (k := kS) (w := u5) rfl _ _ 47 42 rfl Tryd.underlying47 _ 24 info_spot rfl w.heap.size u5.heap.size w3.heap.size 0 1 1 (.slice (some ⟨gl, 0, none⟩) 1 1) [behP 1 2 (T : Int) a] [⟨4, 0, a - 1⟩] rfl rfl o5 l5 (by simp) (by omega) (by have := gu5.size; omega) ?_; intro v6 u6 o6 g6 n6))
      obtain ⟨A6, c6, rfl, _, _⟩ := o6.form
      go_ret
      exact ⟨_, _, _, rfl, Lib.hid rfl, o6, (bz.grown gu5 hw9 (by simp)).grown g6 (by have := gu5.size; omega) (fun r e => (o5.lt r e).1)⟩
    · rw [HB0.out hpos]
      clear HB1 HB0
      go_enter Tryd.func42, Tryd.ntmps42
      go_wp2_with (first
        | (refine wpList_box_blk (w := w) rfl 62 _ rfl _ rfl ?_; intro u1 qu1 gu1 zu1)
        | (refine wpList_box_blk (w := u1) rfl 34 _ rfl _ rfl ?_; intro u2 qu2 gu2 zu2; have bo3 : Below w.heap.size w u2 := ((Below.refl _ w).grown gu1 (Nat.le_refl _) (by simp)).grown gu2 gu1.size (by simp); have qj := qu1.grown gu2 (by simp); have ca0 := qu2.cell (i := 0) rfl; have ca2 := qu2.cell (i := 2) rfl)
        | (refine wpList_fld0 (w := u2) rfl rfl rfl Tryd.underlying34 rfl (by kernel_rfl) ?_))
      refine wp_region_held (S := fun W => Below u2.heap.size u2 W) (by kernel_rfl) ?_
      change wpAnyH _ _ _ _ _ _ _ _ u2.drew
      have c0_0 := (Below.refl u2.heap.size u2).drew
      refine Held.tk (v := .agg #[.int .i64 K, .int .i64 (I : Int), .int .i64 (M : Int)]) 0 (some 31) rfl (Held.y_load_blk (n := 3) rfl rfl Tryd.underlying62 rfl (by kernel_rfl) rfl (fun W hW => qj.after hW)) c0_0 ?_
      simp only [Act.put, Z1, Z2, Z3]
      refine Held.tk (v := .pointer (some ⟨u1.heap.size, 2, none⟩)) 2 (some 33) rfl (Held.y_field (k := 2) (s := 0) rfl rfl Tryd.underlying34 rfl (by kernel_rfl) rfl) c0_0 ?_
      simp only [Act.put, Z1, Z2, Z3]
      refine Held.tk (v := .int .i64 a) 3 (some 34) rfl (Held.y_load rfl rfl (by kernel_rfl) (fun W hW => (qu2.after hW).cell rfl)) c0_0 ?_
      simp only [Act.put, Z1, Z2, Z3]
      refine Held.one 1 (by kernel_rfl) ?_
      refine Held.op_call 1 (some 32) 50 #[.agg #[.int .i64 K, .int .i64 (I : Int), .int .i64 (M : Int)]] rfl rfl rfl rfl (enters_of Tryd.func50 (by kernel_rfl) rfl) (by simp [Act.eval])
        (nrounds_any K I mp M T h _ (hT.below (bo3.trans (c0_0.mono bo3.size)) hT.lt)) ?_
      rintro e w1 ⟨rfl, b1⟩
      have c0_1 := c0_0.trans (b1.mono c0_0.size)
      refine ⟨_, rfl, c0_1, ?_⟩
      simp only [Act.put, Z1, Z2, Z3]
      refine Held.one 4 (by kernel_rfl) ?_
      refine Held.op_call 4 (some 35) 61 #[.int .i64 (T : Int), .int .i64 a] rfl rfl rfl rfl (enters_of Tryd.func61 (by kernel_rfl) rfl) (by simp [Act.eval])
        (sorted_any (T : Int) a _) ?_
      rintro e w2 ⟨rfl, b2⟩
      have c0_2 := c0_1.trans (b2.mono c0_1.size)
      refine ⟨_, rfl, c0_2, ?_⟩
      simp only [Act.put, Z1, Z2, Z3]
      refine Held.one 5 (by kernel_rfl) ?_
      refine op_build_lst (k := kS) 5 (some 36) 47 42 1 _ 24 [behP 1 2 (T : Int) a] rfl rfl rfl rfl Tryd.underlying47 info_spot rfl rfl (by simp [Act.eval, kS, Sp.cells, spV]) (by omega) (by decide) ?_
      intro gl w3 ql b3 hgl
      have c0_3 := c0_2.trans (b3.mono c0_2.size)
      refine ⟨c0_3, ?_⟩
      simp only [Act.put, Z1, Z2, Z3]
      refine Held.tk (v := .slice (some ⟨gl, 0, none⟩) 1 1) 6 (some 5) rfl (Held.y_assign rfl rfl) c0_3 ?_
      simp only [Act.put, Z1, Z2, Z3]
      refine wpAnyH_done (by kernel_rfl) ?_ _
      have bz := bo3.trans (c0_3.mono bo3.size)
      have q9 := qu2.after c0_3
      have hgl2 := Nat.le_trans (Nat.le_trans bo3.size c0_2.size) hgl.out
      have ca9 := q9.cell (i := 2) rfl
      have o9 : OwnL kS 42 w3 w.heap.size (.slice (some ⟨gl, 0, none⟩) 1 1) [behP 1 2 (T : Int) a] := own_lst ql hgl2 rfl (by omega)
      clear ca0 ca2
      go_wp2_with (first
        | (refine wpList_fld0 (w := w3) rfl rfl rfl Tryd.underlying34 rfl (by kernel_rfl) ?_))
      go_ret
      exact ⟨_, _, _, rfl, Lib.hid rfl, o9, bz⟩
  · rw [show readsT (T : Int) ⟨5, rd, a, b, up⟩ = [behP 3 5 (rd - 1) a, behP 3 5 (rd - 1) b] from rfl]
    go_enter Tryd.func42, Tryd.ntmps42
    go_wp2_with (first
      | (refine wpList_box_blk (w := w) rfl 62 _ rfl _ rfl ?_; intro u1 qu1 gu1 zu1)
      | (refine wpList_box_blk (w := u1) rfl 34 _ rfl _ rfl ?_; intro u2 qu2 gu2 zu2; have bo3 : Below w.heap.size w u2 := ((Below.refl _ w).grown gu1 (Nat.le_refl _) (by simp)).grown gu2 gu1.size (by simp); have qj := qu1.grown gu2 (by simp); have ca0 := qu2.cell (i := 0) rfl; have ca2 := qu2.cell (i := 2) rfl)
      | (refine wpList_fld0 (w := u2) rfl rfl rfl Tryd.underlying34 rfl (by kernel_rfl) ?_))
    refine wp_region_held (S := fun W => Below u2.heap.size u2 W) (by kernel_rfl) ?_
    change wpAnyH _ _ _ _ _ _ _ _ u2.drew
    have c0_0 := (Below.refl u2.heap.size u2).drew
    refine Held.tk (v := .pointer (some ⟨u1.heap.size, 1, none⟩)) 0 (some 50) rfl (Held.y_field (k := 1) (s := 0) rfl rfl Tryd.underlying34 rfl (by kernel_rfl) rfl) c0_0 ?_
    simp only [Act.put, Z1, Z2, Z3]
    refine Held.tk (v := .int .i64 rd) 1 (some 51) rfl (Held.y_load rfl rfl (by kernel_rfl) (fun W hW => (qu2.after hW).cell rfl)) c0_0 ?_
    simp only [Act.put, Z1, Z2, Z3]
    refine Held.tk (v := .int .i64 ((rd - 1))) 2 (some 52) rfl (Held.y_int rfl rfl rfl (Held.run_sub 3 .i64 (HS.out))) c0_0 ?_
    simp only [Act.put, Z1, Z2, Z3]
    refine Held.tk (v := .pointer (some ⟨u1.heap.size, 2, none⟩)) 3 (some 53) rfl (Held.y_field (k := 2) (s := 0) rfl rfl Tryd.underlying34 rfl (by kernel_rfl) rfl) c0_0 ?_
    simp only [Act.put, Z1, Z2, Z3]
    refine Held.tk (v := .int .i64 a) 4 (some 54) rfl (Held.y_load rfl rfl (by kernel_rfl) (fun W hW => (qu2.after hW).cell rfl)) c0_0 ?_
    simp only [Act.put, Z1, Z2, Z3]
    refine Held.tk (v := .pointer (some ⟨u1.heap.size, 1, none⟩)) 6 (some 56) rfl (Held.y_field (k := 1) (s := 0) rfl rfl Tryd.underlying34 rfl (by kernel_rfl) rfl) c0_0 ?_
    simp only [Act.put, Z1, Z2, Z3]
    refine Held.tk (v := .int .i64 rd) 7 (some 57) rfl (Held.y_load rfl rfl (by kernel_rfl) (fun W hW => (qu2.after hW).cell rfl)) c0_0 ?_
    simp only [Act.put, Z1, Z2, Z3]
    refine Held.tk (v := .int .i64 ((rd - 1))) 8 (some 58) rfl (Held.y_int rfl rfl rfl (Held.run_sub 3 .i64 (HS.out))) c0_0 ?_
    simp only [Act.put, Z1, Z2, Z3]
    refine Held.tk (v := .pointer (some ⟨u1.heap.size, 3, none⟩)) 9 (some 59) rfl (Held.y_field (k := 3) (s := 0) rfl rfl Tryd.underlying34 rfl (by kernel_rfl) rfl) c0_0 ?_
    simp only [Act.put, Z1, Z2, Z3]
    refine Held.tk (v := .int .i64 b) 10 (some 60) rfl (Held.y_load rfl rfl (by kernel_rfl) (fun W hW => (qu2.after hW).cell rfl)) c0_0 ?_
    simp only [Act.put, Z1, Z2, Z3]
    refine Held.one 5 (by kernel_rfl) ?_
    refine Held.op_call 5 (some 55) 49 #[.int .i64 ((rd - 1)), .int .i64 a] rfl rfl rfl rfl (enters_of Tryd.func49 (by kernel_rfl) rfl) (by simp [Act.eval])
      (last_any (rd - 1) a _) ?_
    rintro e w1 ⟨rfl, b1⟩
    have c0_1 := c0_0.trans (b1.mono c0_0.size)
    refine ⟨_, rfl, c0_1, ?_⟩
    simp only [Act.put, Z1, Z2, Z3]
    refine Held.one 11 (by kernel_rfl) ?_
    refine Held.op_call 11 (some 61) 49 #[.int .i64 ((rd - 1)), .int .i64 b] rfl rfl rfl rfl (enters_of Tryd.func49 (by kernel_rfl) rfl) (by simp [Act.eval])
      (last_any (rd - 1) b _) ?_
    rintro e w2 ⟨rfl, b2⟩
    have c0_2 := c0_1.trans (b2.mono c0_1.size)
    refine ⟨_, rfl, c0_2, ?_⟩
    simp only [Act.put, Z1, Z2, Z3]
    refine Held.one 12 (by kernel_rfl) ?_
    refine op_build_lst (k := kS) 12 (some 62) 47 42 2 _ 24 [behP 3 5 (rd - 1) a, behP 3 5 (rd - 1) b] rfl rfl rfl rfl Tryd.underlying47 info_spot rfl rfl (by simp [Act.eval, kS, Sp.cells, spV]) (by omega) (by decide) ?_
    intro gl w3 ql b3 hgl
    have c0_3 := c0_2.trans (b3.mono c0_2.size)
    refine ⟨c0_3, ?_⟩
    simp only [Act.put, Z1, Z2, Z3]
    refine Held.tk (v := .slice (some ⟨gl, 0, none⟩) 2 2) 13 (some 4) rfl (Held.y_assign rfl rfl) c0_3 ?_
    simp only [Act.put, Z1, Z2, Z3]
    refine wpAnyH_done (by kernel_rfl) ?_ _
    have bz := bo3.trans (c0_3.mono bo3.size)
    have hgl2 := Nat.le_trans (Nat.le_trans bo3.size c0_2.size) hgl.out
    go_wp2_with fail
    go_ret
    exact ⟨_, _, _, rfl, Lib.hid rfl, own_lst ql hgl2 rfl (by omega), bz⟩
theorem own_nb {w : World} {B B' : Nat} {v v' : Value} {xs : List Sp} {zs : List Int} (h : OwnL kS 42 w B v xs) (k : Mem.Own w B' 3 .i64 v' zs) : v'.ownBlock = none ∨ v'.ownBlock ≠ v.ownBlock := by
  cases hq : v'.ownBlock with
  | none => exact .inl rfl
  | some b =>
    refine .inr fun e => ?_
    obtain ⟨cs, fz, h2⟩ := Bi.own_obj k hq
    rcases h.2 with ⟨rfl, _⟩ | ⟨g, cap, cur, rfl, hb, hg, _⟩
    · cases e
    · have e : some b = some g := e
      injection e with e
      subst e
      rw [h2] at hg
      injection hg with hg
      injection hg with _ hg
      exact absurd hg (by decide)
theorem own_nq {w : World} {B g : Nat} {v : Value} {xs : List Sp} {t : TypeId} {cs : Array Value} (h : OwnL kS 42 w B v xs) (q : Blk w g t cs) (ht : 42 ≠ t) : some g ≠ v.ownBlock := fun e => OwnL.ne_blk h q ht e.symm
set_option maxRecDepth 100000 in
set_option maxHeartbeats 8000000 in
theorem writes_any (K : Int) (I M : Nat) (kd rd a b : Int) (up : Bool) (hb : TkB ⟨kd, rd, a, b, up⟩) (hK : kd = 1 → 0 ≤ K ∧ K ≤ 4) (w : World) :
    Calls Tryd.prog 44 #[.agg #[.int .i64 K, .int .i64 (I : Int), .int .i64 (M : Int)], .agg #[.int .i64 kd, .int .i64 rd, .int .i64 a, .int .i64 b, .bool up]] w fun e w' => ∃ A n c, e = .returned (.slice A n c) ∧ Hid ((writesT K ⟨kd, rd, a, b, up⟩).length = n) ∧ OwnL kS 42 w' w.heap.size (.slice A n c) (writesT K ⟨kd, rd, a, b, up⟩) ∧ Below w.heap.size w w' := by
  have HPH := Lib.hid (fun W => phases_any kd hb.k1 hb.k5 W)
  have HAD := Lib.hid (fun W => addresses_any K I M kd rd a b up hb hK W)
  have hwf := writes_wf hb hK
  have hln := writes_length (t := ⟨kd, rd, a, b, up⟩) hK
  have HW := Lib.hid (show writesT K ⟨kd, rd, a, b, up⟩ = (phasesT kd).flatMap fun ph => (addrsT K ⟨kd, rd, a, b, up⟩).map fun ad => ⟨ph, rd, ad⟩ from rfl)
  rw [HW.out] at hwf hln ⊢
  have hp2 : (phasesT kd).length ≤ 2 := by
    unfold phasesT
    split
    · simp
    · split
      · simp
      · split
        · simp
        · split <;> simp
  have ha4 : (addrsT K ⟨kd, rd, a, b, up⟩).length ≤ 4 := by
    unfold addrsT
    split
    · rename_i hk
      have := hK hk
      simp
      omega
    · split <;> simp
  generalize phasesT kd = ps at *
  generalize addrsT K ⟨kd, rd, a, b, up⟩ = av at *
  have HPT := Lib.hid (fun i (hi : i < ps.length) => show (ps.take (i + 1)).flatMap (fun ph => av.map fun ad => (⟨ph, rd, ad⟩ : Sp)) = (ps.take i).flatMap (fun ph => av.map fun ad => (⟨ph, rd, ad⟩ : Sp)) ++ av.map (fun ad => (⟨ps.getD i 0, rd, ad⟩ : Sp)) by
    rw [List.take_add_one, List.getElem?_eq_getElem hi, List.flatMap_append, List.getD_eq_getElem?_getD, List.getElem?_eq_getElem hi]
    simp)
  have HAT := Lib.hid (fun j (hj : j < av.length) (p : Int) => show (av.take (j + 1)).map (fun ad => (⟨p, rd, ad⟩ : Sp)) = (av.take j).map (fun ad => (⟨p, rd, ad⟩ : Sp)) ++ [⟨p, rd, av.getD j 0⟩] by
    rw [List.take_add_one, List.getElem?_eq_getElem hj, List.map_append, List.getD_eq_getElem?_getD, List.getElem?_eq_getElem hj]
    simp)
  have HIN := Lib.hid (fun i j (hi : i < ps.length) (hj : j < av.length) => show (⟨ps.getD i 0, rd, av.getD j 0⟩ : Sp) ∈ ps.flatMap fun ph => av.map fun ad => (⟨ph, rd, ad⟩ : Sp) by
    refine List.mem_flatMap.2 ⟨ps.getD i 0, ?_, List.mem_map.2 ⟨av.getD j 0, ?_, rfl⟩⟩
    · rw [List.getD_eq_getElem?_getD, List.getElem?_eq_getElem hi]; exact List.getElem_mem _
    · rw [List.getD_eq_getElem?_getD, List.getElem?_eq_getElem hj]; exact List.getElem_mem _)
  have HBL := Lib.hid (fun i (hi : i ≤ ps.length) => show ((ps.take i).flatMap (fun ph => av.map fun ad => (⟨ph, rd, ad⟩ : Sp))).length ≤ 100 by
    refine Nat.le_trans (m := (ps.flatMap (fun ph => av.map fun ad => (⟨ph, rd, ad⟩ : Sp))).length) ?_ (by omega)
    conv => rhs; rw [← List.take_append_drop i ps, List.flatMap_append, List.length_append]
    omega)
  have HPL := Lib.hid (show ∀ i, i < ps.length → (ps.getD i 0) = ps.getD i 0 from fun _ _ => rfl)
  have HA4 := Lib.hid ha4
  have HP2 := Lib.hid hp2
  have HWF := Lib.hid hwf
  clear HW hK hb hln ha4 hp2 hwf HPL
  go_enter Tryd.func44, Tryd.ntmps44
  go_wp2_with (first
    | (refine wpList_box_blk (w := w) rfl 62 _ rfl _ rfl ?_; intro u1 qu1 gu1 zu1)
    | (refine wpList_box_blk (w := u1) rfl 34 _ rfl _ rfl ?_; intro u2 qu2 gu2 zu2; have bo3 : Below w.heap.size w u2 := ((Below.refl _ w).grown gu1 (Nat.le_refl _) (by simp)).grown gu2 gu1.size (by simp); have qj := qu1.grown gu2 (by simp); have ca0 := qu2.cell (i := 0) rfl)
    | (refine wpList_fld0 (w := u2) rfl rfl rfl Tryd.underlying34 rfl (by kernel_rfl) ?_))
  refine (HPH.out u2).mono ?_
  rintro e u3 ⟨Ap, np, cp, rfl, hnp, op, b3⟩
  have qj3 := qj.after b3
  have qt3 := qu2.after b3
  have bo3 := bo3.trans (b3.mono bo3.size)
  have hu3 := b3.size
  have lj := qj.lt
  have lt_ := qu2.lt
  have hw1 : w.heap.size ≤ u1.heap.size := gu1.size
  have hw2 : w.heap.size ≤ u2.heap.size := by have := qu2.lt; omega
  have HNP := hnp
  have hpl : Hid (∀ i, i < np → i < ps.length) := Lib.hid (fun i hi => by have := HNP.out; omega)
  generalize u1.heap.size = bt at *
  have op := op.less hw2
  clear gu1 gu2 zu1 zu2 qu1 qu2 qj ca0 b3 HPH hnp
  go_wp2_with fail
  go_loopw [5, 14] (fun v i wr => ∃ k : Nat, k ≤ np ∧ i = .int .i64 k ∧ OwnL kS 42 wr w.heap.size v ((ps.take k).flatMap fun ph => av.map fun ad => (⟨ph, rd, ad⟩ : Sp)) ∧ Mem.Own wr w.heap.size 3 .i64 (.slice Ap np cp) ps ∧ Blk wr w.heap.size 62 #[.int .i64 K, .int .i64 (I : Int), .int .i64 (M : Int)] ∧ Blk wr bt 34 #[.int .i64 kd, .int .i64 rd, .int .i64 a, .int .i64 b, .bool up] ∧ Below w.heap.size w wr) (fun _ i _ => np - (intOf i).toNat)
  case atStart => exact ⟨0, by omega, rfl, OwnL.nil _ _ _ _, op, qj3, qt3, bo3⟩
  case round =>
    clear op qj3 qt3 bo3
    obtain ⟨k, hk, rfl, hl, op, qj, qt, bw⟩ := hrel
    obtain ⟨A1, n1, c1, rfl, hn1, _, _⟩ := hl.form2
    have HN1 := hn1
    have hkl : k ≤ ps.length := by have := HNP.out; omega
    have hb100 : n1 ≤ 100 := by have := HBL.out k hkl; have := HN1.out; omega
    have hwz := bw.size
    by_cases hlt : k < np
    · have hlt' : (k : Int) < (np : Int) := by omega
      have hk0 : (0 : Int) ≤ (k : Int) := by omega
      have hklt : k < ps.length := by have := HNP.out; omega
      obtain ⟨bp, off, rfl, hbp, hcp⟩ := (op.ints HNP.out).at_ hlt
      obtain ⟨p, hp⟩ : ∃ p, ps.getD k 0 = p := ⟨_, rfl⟩
      have HP := Lib.hid hp
      rw [hp] at hcp
      clear hp
      go_wp2_with (first
        | (refine wpList_load_blk (w := wr) rfl 62 _ rfl (w.heap.size) 3 rfl 62 _ qj _ Tryd.underlying62 rfl (by kernel_rfl) rfl ?_)
        | (refine wpList_load_blk (w := wr) rfl 34 _ rfl (bt) 5 rfl 34 _ qt _ Tryd.underlying34 rfl (by kernel_rfl) rfl ?_))
      refine (HAD.out wr).mono ?_
      rintro e w3 ⟨Aa, na, ca, rfl, hna, oa, b3⟩
      have hl3 := hl.below b3
      have op3 := op.below b3
      have qj3 := qj.after b3
      have qt3 := qt.after b3
      have bw3 := bw.trans (b3.mono hwz)
      have oa := oa.less hwz
      have HNA := hna
      have hadd : IntKind.i64.wrap ((k : Int) + 1) = (k : Int) + 1 := by rw [IntKind.wrap_i64]; have := HP2.out; omega
      have h4 := HA4.out
      have HK1 := Lib.hid (HPT.out k hklt)
      rw [HP.out] at HK1
      clear hl op qj qt bw b3 hna hcp hbp
      go_wp2_with fail
      go_loopw [5, 22] (fun v j wi => ∃ m : Nat, m ≤ na ∧ j = .int .i64 m ∧ OwnL kS 42 wi w.heap.size v ((ps.take k).flatMap (fun ph => av.map fun ad => (⟨ph, rd, ad⟩ : Sp)) ++ (av.take m).map (fun ad => (⟨p, rd, ad⟩ : Sp))) ∧ Mem.Own wi w.heap.size 3 .i64 (.slice (some ⟨bp, off, none⟩) np cp) ps ∧ Mem.Own wi w.heap.size 3 .i64 (.slice Aa na ca) av ∧ Blk wi w.heap.size 62 #[.int .i64 K, .int .i64 (I : Int), .int .i64 (M : Int)] ∧ Blk wi bt 34 #[.int .i64 kd, .int .i64 rd, .int .i64 a, .int .i64 b, .bool up] ∧ Below w.heap.size w wi) (fun _ j _ => na - (intOf j).toNat)
      case atStart => exact ⟨0, by omega, rfl, by simpa using hl3, op3, oa, qj3, qt3, bw3⟩
      case round =>
        clear hl3 op3 oa qj3 qt3 bw3
        obtain ⟨m, hm, rfl, hl, op, oa, qj, qt, bw⟩ := hrel
        obtain ⟨A2, n2, c2, rfl, hn2, _, _⟩ := hl.form2
        have HN2 := hn2
        have hwz := bw.size
        by_cases hlm : m < na
        · have hlm' : (m : Int) < (na : Int) := by omega
          have hm0 : (0 : Int) ≤ (m : Int) := by omega
          have hmlt : m < av.length := by have := HNA.out; omega
          obtain ⟨ba, offa, rfl, hba, hca⟩ := (oa.ints HNA.out).at_ hlm
          obtain ⟨ad, hadq⟩ : ∃ z, av.getD m 0 = z := ⟨_, rfl⟩
          have HAQ := Lib.hid hadq
          rw [hadq] at hca
          have HM1 := Lib.hid (HAT.out m hmlt p)
          rw [HAQ.out] at HM1
          have wf1 : ∀ s ∈ [(⟨p, rd, ad⟩ : Sp)], s.wf := fun s hs => by
            rw [List.mem_singleton] at hs
            subst hs
            have := HWF.out _ (HIN.out k m hklt hmlt)
            rwa [HP.out, HAQ.out] at this
          have hn100 : n2 ≤ 200 := by
            have h1 := HBL.out k hkl
            have h2 := HN2.out
            rw [List.length_append, List.length_map, List.length_take] at h2
            omega
          have ct := qt.cell (i := 1) rfl
          have hadd2 : IntKind.i64.wrap ((m : Int) + 1) = (m : Int) + 1 := by rw [IntKind.wrap_i64]; omega
          clear hadq hn2
          go_wp2_with (first
            | (refine wpList_fld0 (w := wr) rfl rfl rfl Tryd.underlying34 rfl (by kernel_rfl) ?_)
            | (refine wpList_build_blk rfl 42 #[_, _, _] rfl #[.int .i64 p, .int .i64 rd, .int .i64 ad] (by kernel_rfl) ?_)
            | (refine wpList_build_lst (k := kS) (w := wr) rfl 47 42 1 _ rfl Tryd.underlying47 _ 24 info_spot rfl [⟨p, rd, ad⟩] rfl (by kernel_rfl) (by omega) (by decide) ?_; intro u5 qu5 gu5 zu5; have o5 := hl.kept gu5 (by cases (Value.slice A2 n2 c2).ownBlock <;> simp); have l5 : Lst kS u5 u5.heap.size (some ⟨wr.heap.size, 0, none⟩) 1 [⟨p, rd, ad⟩] := lst_whole qu5 rfl wf1)
            | (at_builtin; refine wpList_append_lst (k := kS) (w := u5) rfl _ _ 47 42 rfl Tryd.underlying47 _ 24 info_spot rfl w.heap.size u5.heap.size wr.heap.size 0 1 1 (.slice A2 n2 c2) _ [⟨p, rd, ad⟩] rfl rfl o5 l5 (by rw [HN2.out]; omega) (by omega) (by have := gu5.size; omega) ?_; intro v6 u6 o6 g6 n6))
          obtain ⟨A6, n6', c6, rfl, _⟩ := o6.form2
          have op5 := op.kept gu5 (by cases (Value.slice (some ⟨bp, off, none⟩) np cp).ownBlock <;> simp)
          have oa5 := oa.kept gu5 (by cases (Value.slice (some ⟨ba, offa, none⟩) na ca).ownBlock <;> simp)
          have qj5 := qj.grown gu5 (by simp)
          have qt5 := qt.grown gu5 (by simp)
          go_roundw
          case rel => exact ⟨m + 1, by omega, by go_num, by rw [HM1.out, ← List.append_assoc]; exact o6, op5.kept g6 (own_nb o5 op5), oa5.kept g6 (own_nb o5 oa5), qj5.grown g6 (own_nq o5 qj5 (by decide)), qt5.grown g6 (own_nq o5 qt5 (by decide)), (bw.grown gu5 hwz (by simp)).grown g6 (by have := gu5.size; omega) (fun r e => (o5.lt r e).1)⟩
          case measure => simp [intOf]; omega
        · obtain rfl : m = na := by omega
          have HLE := Lib.hid (show av.take m = av from List.take_of_length_le (by have := HNA.out; omega))
          rw [HLE.out, ← HK1.out] at hl
          go_wp2_with fail
          go_roundw
          case rel => exact ⟨k + 1, by omega, by go_num, hl, op, qj, qt, bw⟩
          case measure => simp [intOf]; omega
    · obtain rfl : k = np := by omega
      have HLE := Lib.hid (show ps.take k = ps from List.take_of_length_le (by have := HNP.out; omega))
      rw [HLE.out] at hl
      rw [HLE.out] at HN1
      clear hn1
      go_wp2_with fail
      go_ret
      exact ⟨_, _, _, rfl, HN1, hl, bw⟩
end Go.Proofs.YtipmfficjomcoaaDoor.Sh
