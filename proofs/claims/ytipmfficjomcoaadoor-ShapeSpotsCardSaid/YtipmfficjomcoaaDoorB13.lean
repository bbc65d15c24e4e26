/-
  The document's own tasks (package dominoref17's Tasks), by their contract.
-/
import Derived.Test.YtipmfficjomcoaaDoorB12
set_option linter.unusedVariables false
namespace Go.Proofs.YtipmfficjomcoaaDoor.Sh
open Go.RowKit Go.Shelf Mem Held Go.Proofs.YtipmfficjomcoaaDoor.Range Sl
attribute [local go_sem] Oper.semAt_some
attribute [local irreducible] wpList wpListIn Calls
theorem own_tq {w : World} {B g : Nat} {v : Value} {xs : List Tk} {t : TypeId} {cs : Array Value} (h : OwnL kT 34 w B v xs) (q : Blk w g t cs) (ht : 34 ≠ t) : some g ≠ v.ownBlock := fun e => OwnL.ne_blk h q ht e.symm
set_option maxRecDepth 100000 in
set_option maxHeartbeats 16000000 in
theorem rtasks_any (r k b wk : Int) (hk0 : -9223372036854775808 ≤ k) (hk1 : k ≤ 9223372036854775807) (w : World) :
    Calls Tryd.prog 10 #[.agg #[.int .i64 r, .int .i64 k, .int .i64 b, .int .i64 wk]] w fun e w' => ∃ A n c, e = .returned (.slice A n c) ∧ Hid ((tasksT (inN r k b wk) (mpN r k b wk) (mN r k b wk) (tN r k b wk)).length = n) ∧ OwnL kT 34 w' w.heap.size (.slice A n c) (tasksT (inN r k b wk) (mpN r k b wk) (mN r k b wk) (tN r k b wk)) ∧ Below w.heap.size w w' := by
  have h := job_of (r := r) (b := b) (wk := wk) hk0 hk1
  have HB := Lib.hid (fun (W : World) => rblocks_any r k b wk W)
  generalize inN r k b wk = I at *
  generalize mpN r k b wk = mp at *
  generalize mN r k b wk = M at *
  generalize tN r k b wk = T at *
  have hM32 := h.m32
  have hI32 := h.i32
  have hmp := h.le
  have HS := Lib.hid (fun (kd : Int) (hkd : kd = 3 ∨ kd = 5) (W : World) => rsorts_any kd hkd k I mp M T h W)
  have HSW := Lib.hid (fun (kd : Int) (hkd : kd = 3 ∨ kd = 5) t (ht : t ∈ sortsT kd M T) => (sorts_b h hkd ht).wf)
  have HSL := Lib.hid (fun (kd : Int) => show (sortsT kd M T).length ≤ 240 by
    rw [sorts_len h kd T (Nat.le_refl _)]
    have h15 := h.t15
    have : T * (M / 2) ≤ 15 * 16 := Nat.mul_le_mul h15 (by omega)
    omega)
  have HKI := Lib.hid (show IntKind.i64.wrap ((I : Int) * k) = (mp : Int) by rw [Int.mul_comm]; exact mul_i64 h)
  clear h hk0 hk1
  go_enter Tryd.func10, Tryd.ntmps10
  go_wp2_with (first
    | (refine wpList_box_blk (w := w) rfl 23 _ rfl _ rfl ?_; intro u1 qu1 gu1 zu1; have b1 : Below w.heap.size w u1 := (Below.refl _ w).grown gu1 (Nat.le_refl _) (by simp))
    | (refine wpList_load_blk (w := u1) rfl 23 _ rfl (w.heap.size) 4 rfl 23 _ qu1 _ Tryd.underlying23 rfl (by kernel_rfl) rfl ?_))
  refine (HB.out u1).mono ?_
  rintro e u2 ⟨rfl, b2⟩
  have qp0 := qu1.after b2
  have bw0 := b1.trans (b2.mono b1.size)
  have hl0 : OwnL kT 34 u2 w.heap.size (.slice none 0 0) ([] ++ (List.range 0).map (oneT 1)) := OwnL.nil _ _ _ _
  have HL1 : Hid (([] : List Tk).length ≤ 0) := Lib.hid (by simp)
  clear b1 b2 gu1 zu1 qu1 HB
  go_wp2_with fail
  go_loopw [5, 6] (fun v i wr => ∃ m : Nat, m ≤ I ∧ i = .int .i64 (m : Int) ∧ OwnL kT 34 wr w.heap.size v ([] ++ (List.range m).map (oneT 1)) ∧ Blk wr w.heap.size 23 #[.int .i64 r, .int .i64 k, .int .i64 b, .int .i64 wk] ∧ Below w.heap.size w wr) (fun _ i _ => (I : Nat) - (intOf i).toNat)
  case atStart => exact ⟨0, by omega, rfl, hl0, qp0, bw0⟩
  case round =>
    clear hl0 qp0 bw0
    obtain ⟨m, hm, rfl, hl, qp, bw⟩ := hrel
    obtain ⟨A2, n2, c2, rfl, hn2, _, _⟩ := hl.form2
    have HN2 := hn2
    have hwz := bw.size
    by_cases hlt : m < I
    · have hlt' : (m : Int) < (I : Int) := by omega
      have hadd : IntKind.i64.wrap ((m : Int) + 1) = (m : Int) + 1 := by rw [IntKind.wrap_i64]; omega
      have wf1 : ∀ t ∈ [(⟨1, 0, (m : Int), 0, false⟩ : Tk)], t.wf := fun t ht => by
        rw [List.mem_singleton] at ht
        subst ht
        exact ⟨lit_wf (by simp only; omega) (by simp only; omega), lit_wf (by simp only; omega) (by simp only; omega), lit_wf (by simp only; omega) (by simp only; omega), lit_wf (by simp only; omega) (by simp only; omega)⟩
      have HST := Lib.hid (show (List.range (m + 1)).map (oneT 1) = (List.range m).map (oneT 1) ++ [⟨1, 0, (m : Int), 0, false⟩] by
        rw [List.range_succ, List.map_append]
        simp [oneT])
      have hn1 : n2 ≤ 2000 := by
        have h1 := HN2.out
        have h2 := HL1.out
        rw [List.length_append, List.length_map, List.length_range] at h1
        omega
      clear hn2
      go_wp2_with (first
        | (refine wpList_build_blk rfl 34 #[_, _] rfl #[.int .i64 1, .int .i64 0, .int .i64 (m : Int), .int .i64 0, .bool false] (by kernel_rfl) ?_)
        | (refine wpList_build_lst (k := kT) (w := wr) rfl 28 34 1 _ rfl Tryd.underlying28 _ 40 info_task rfl [⟨1, 0, (m : Int), 0, false⟩] rfl (by kernel_rfl) (by omega) (by decide) ?_; intro u5 qu5 gu5 zu5; have o5 := hl.kept gu5 (by cases (Value.slice A2 n2 c2).ownBlock <;> simp); have l5 : Lst kT u5 u5.heap.size (some ⟨wr.heap.size, 0, none⟩) 1 [⟨1, 0, (m : Int), 0, false⟩] := lst_whole qu5 rfl wf1)
        | (at_builtin; refine wpList_append_lst (k := kT) (w := u5) rfl _ _ 28 34 rfl Tryd.underlying28 _ 40 info_task rfl w.heap.size u5.heap.size wr.heap.size 0 1 1 (.slice A2 n2 c2) _ [⟨1, 0, (m : Int), 0, false⟩] rfl rfl o5 l5 (by rw [HN2.out]; omega) (by omega) (by have := gu5.size; omega) ?_; intro v6 u6 o6 g6 n6))
      obtain ⟨A6, n6', c6, rfl, _⟩ := o6.form2
      have qp5 := qp.grown gu5 (by simp)
      go_roundw
      case rel => exact ⟨m + 1, by omega, by go_num, by rw [HST.out, ← List.append_assoc]; exact o6, qp5.grown g6 (own_tq o5 qp5 (by decide)), (bw.grown gu5 hwz (by simp)).grown g6 (by have := gu5.size; omega) (fun r e => (o5.lt r e).1)⟩
      case measure => simp [intOf]; omega
    · obtain rfl : I = m := by omega
      have hlt' : ¬ (I : Int) < (I : Int) := by omega
      have ck := qp.cell (i := 1) rfl
      rw [List.nil_append] at hl HN2
      obtain ⟨L1, hL1⟩ : ∃ L1, (List.range I).map (oneT 1) = L1 := ⟨_, rfl⟩
      have HLL1 := Lib.hid hL1
      have HL2 : Hid (L1.length ≤ 32) := Lib.hid (by rw [← hL1]; simp; omega)
      rw [hL1] at hl HN2
      have hl0 : OwnL kT 34 wr w.heap.size (.slice A2 n2 c2) (L1 ++ (List.range 0).map (fun i => oneT 2 (mp + i))) := by simpa using hl
      have qp0 := qp
      have bw0 := bw
      clear hl qp bw hn2 hL1 hlt hlt' HL1
      go_wp2_with (first
        | (refine wpList_fld0 (w := wr) rfl rfl rfl Tryd.underlying23 rfl (by kernel_rfl) ?_)
        | (refine Held.wpList_run (w := wr) rfl (v := .int .i64 (mp : Int)) (Held.y_int (S := fun _ => True) (a := (I : Int)) (b := k) rfl rfl rfl (Held.run_mul 3 .i64 HKI.out) _ trivial) ?_))
      clear ck
      obtain ⟨wv, hwv⟩ : ∃ wv, wr = wv := ⟨_, rfl⟩
      rw [hwv] at hl0 qp0 bw0 ⊢
      clear hwv
      go_loopw [5, 7] (fun v i wr => ∃ m : Nat, m ≤ (M - mp) ∧ i = .int .i64 ((mp : Int) + (m : Int)) ∧ OwnL kT 34 wr w.heap.size v (L1 ++ (List.range m).map (fun i => oneT 2 (mp + i))) ∧ Blk wr w.heap.size 23 #[.int .i64 r, .int .i64 k, .int .i64 b, .int .i64 wk] ∧ Below w.heap.size w wr) (fun _ i _ => (M : Nat) - (intOf i).toNat)
      case atStart => exact ⟨0, by omega, by simp, hl0, qp0, bw0⟩
      case round =>
        clear hl0 qp0 bw0
        obtain ⟨m, hm, rfl, hl, qp, bw⟩ := hrel
        obtain ⟨A2, n2, c2, rfl, hn2, _, _⟩ := hl.form2
        have HN2 := hn2
        have hwz := bw.size
        by_cases hlt : m < (M - mp)
        · have hlt' : ((mp : Int) + (m : Int)) < (M : Int) := by omega
          have hadd : IntKind.i64.wrap (((mp : Int) + (m : Int)) + 1) = ((mp : Int) + (m : Int)) + 1 := by rw [IntKind.wrap_i64]; omega
          have wf1 : ∀ t ∈ [(⟨2, 0, ((mp : Int) + (m : Int)), 0, false⟩ : Tk)], t.wf := fun t ht => by
            rw [List.mem_singleton] at ht
            subst ht
            exact ⟨lit_wf (by simp only; omega) (by simp only; omega), lit_wf (by simp only; omega) (by simp only; omega), lit_wf (by simp only; omega) (by simp only; omega), lit_wf (by simp only; omega) (by simp only; omega)⟩
          have HST := Lib.hid (show (List.range (m + 1)).map (fun i => oneT 2 (mp + i)) = (List.range m).map (fun i => oneT 2 (mp + i)) ++ [⟨2, 0, ((mp : Int) + (m : Int)), 0, false⟩] by
            rw [List.range_succ, List.map_append]
            simp [oneT])
          have hn1 : n2 ≤ 2000 := by
            have h1 := HN2.out
            have h2 := HL2.out
            rw [List.length_append, List.length_map, List.length_range] at h1
            omega
          clear hn2
          go_wp2_with (first
            | (refine wpList_build_blk rfl 34 #[_, _] rfl #[.int .i64 2, .int .i64 0, .int .i64 ((mp : Int) + (m : Int)), .int .i64 0, .bool false] (by kernel_rfl) ?_)
            | (refine wpList_build_lst (k := kT) (w := wr) rfl 28 34 1 _ rfl Tryd.underlying28 _ 40 info_task rfl [⟨2, 0, ((mp : Int) + (m : Int)), 0, false⟩] rfl (by kernel_rfl) (by omega) (by decide) ?_; intro u5 qu5 gu5 zu5; have o5 := hl.kept gu5 (by cases (Value.slice A2 n2 c2).ownBlock <;> simp); have l5 : Lst kT u5 u5.heap.size (some ⟨wr.heap.size, 0, none⟩) 1 [⟨2, 0, ((mp : Int) + (m : Int)), 0, false⟩] := lst_whole qu5 rfl wf1)
            | (at_builtin; refine wpList_append_lst (k := kT) (w := u5) rfl _ _ 28 34 rfl Tryd.underlying28 _ 40 info_task rfl w.heap.size u5.heap.size wr.heap.size 0 1 1 (.slice A2 n2 c2) _ [⟨2, 0, ((mp : Int) + (m : Int)), 0, false⟩] rfl rfl o5 l5 (by rw [HN2.out]; omega) (by omega) (by have := gu5.size; omega) ?_; intro v6 u6 o6 g6 n6))
          obtain ⟨A6, n6', c6, rfl, _⟩ := o6.form2
          have qp5 := qp.grown gu5 (by simp)
          go_roundw
          case rel => exact ⟨m + 1, by omega, by go_num, by rw [HST.out, ← List.append_assoc]; exact o6, qp5.grown g6 (own_tq o5 qp5 (by decide)), (bw.grown gu5 hwz (by simp)).grown g6 (by have := gu5.size; omega) (fun r e => (o5.lt r e).1)⟩
          case measure => simp [intOf]; omega
        · obtain rfl : (M - mp) = m := by omega
          have hlt' : ¬ ((mp : Int) + ((M - mp : Nat) : Int)) < (M : Int) := by omega
          obtain ⟨L2, hL2⟩ : ∃ L2, L1 ++ (List.range (M - mp)).map (fun i => oneT 2 (mp + i)) = L2 := ⟨_, rfl⟩
          have HLL2 := Lib.hid hL2
          have HL3 : Hid (L2.length ≤ 64) := Lib.hid (by rw [← hL2]; have := HL2.out; simp; omega)
          rw [hL2] at hl HN2
          clear hn2 hL2 hlt hlt'
          go_wp2_with fail
          refine (HS.out 3 (.inl rfl) wr).mono ?_
          rintro e w2 ⟨As, ns, cs, rfl, hns, os, b2⟩
          have hl2 := hl.below b2
          have qp2 := qp.after b2
          have bw2 := bw.trans (b2.mono hwz)
          have ls : Lst kT w2 w2.heap.size As ns (sortsT 3 M T) := OwnL.lst os (fun t ht => HSW.out 3 (.inl rfl) t ht)
          have hns2 : ns ≤ 240 := by have := hns.out; have := HSL.out 3; omega
          have hwz2 := bw2.size
          clear hl qp bw b2
          go_wp2_with (first
            | (at_builtin; refine Mg.wpList_append_all (k := kT) (w := w2) rfl _ _ 28 34 rfl Tryd.underlying28 _ 40 info_task rfl w.heap.size w2.heap.size ns cs As (.slice A2 n2 c2) L2 (sortsT 3 M T) rfl rfl hl2 ls (by have := HL3.out; omega) (by omega) hwz2 ?_; intro v3 w3 o3 g3 n3))
          obtain ⟨L3, hL3⟩ : ∃ L3, L2 ++ sortsT 3 M T = L3 := ⟨_, rfl⟩
          have HLL3 := Lib.hid hL3
          have HL4 : Hid (L3.length ≤ 320) := Lib.hid (by rw [← hL3]; have := HL3.out; have := HSL.out 3; rw [List.length_append]; omega)
          rw [hL3] at o3
          have hl0 : OwnL kT 34 w3 w.heap.size v3 (L3 ++ (List.range 0).map (oneT 4)) := by simpa using o3
          have qp0 := qp2.grown g3 (own_tq hl2 qp2 (by decide))
          have bw0 := bw2.grown g3 hwz2 (fun r e => (hl2.lt r e).1)
          obtain ⟨A3, n3', c3, rfl, _⟩ := o3.form2
          clear o3 g3 n3 hl2 qp2 bw2 ls os hns hL3
          go_loopw [5, 8] (fun v i wr => ∃ m : Nat, m ≤ M ∧ i = .int .i64 (m : Int) ∧ OwnL kT 34 wr w.heap.size v (L3 ++ (List.range m).map (oneT 4)) ∧ Blk wr w.heap.size 23 #[.int .i64 r, .int .i64 k, .int .i64 b, .int .i64 wk] ∧ Below w.heap.size w wr) (fun _ i _ => (M : Nat) - (intOf i).toNat)
          case atStart => exact ⟨0, by omega, rfl, hl0, qp0, bw0⟩
          case round =>
            clear hl0 qp0 bw0
            obtain ⟨m, hm, rfl, hl, qp, bw⟩ := hrel
            obtain ⟨A2, n2, c2, rfl, hn2, _, _⟩ := hl.form2
            have HN2 := hn2
            have hwz := bw.size
            by_cases hlt : m < M
            · have hlt' : (m : Int) < (M : Int) := by omega
              have hadd : IntKind.i64.wrap ((m : Int) + 1) = (m : Int) + 1 := by rw [IntKind.wrap_i64]; omega
              have wf1 : ∀ t ∈ [(⟨4, 0, (m : Int), 0, false⟩ : Tk)], t.wf := fun t ht => by
                rw [List.mem_singleton] at ht
                subst ht
                exact ⟨lit_wf (by simp only; omega) (by simp only; omega), lit_wf (by simp only; omega) (by simp only; omega), lit_wf (by simp only; omega) (by simp only; omega), lit_wf (by simp only; omega) (by simp only; omega)⟩
              have HST := Lib.hid (show (List.range (m + 1)).map (oneT 4) = (List.range m).map (oneT 4) ++ [⟨4, 0, (m : Int), 0, false⟩] by
                rw [List.range_succ, List.map_append]
                simp [oneT])
              have hn1 : n2 ≤ 2000 := by
                have h1 := HN2.out
                have h2 := HL4.out
                rw [List.length_append, List.length_map, List.length_range] at h1
                omega
              clear hn2
              go_wp2_with (first
                | (refine wpList_build_blk rfl 34 #[_, _] rfl #[.int .i64 4, .int .i64 0, .int .i64 (m : Int), .int .i64 0, .bool false] (by kernel_rfl) ?_)
                | (refine wpList_build_lst (k := kT) (w := wr) rfl 28 34 1 _ rfl Tryd.underlying28 _ 40 info_task rfl [⟨4, 0, (m : Int), 0, false⟩] rfl (by kernel_rfl) (by omega) (by decide) ?_; intro u5 qu5 gu5 zu5; have o5 := hl.kept gu5 (by cases (Value.slice A2 n2 c2).ownBlock <;> simp); have l5 : Lst kT u5 u5.heap.size (some ⟨wr.heap.size, 0, none⟩) 1 [⟨4, 0, (m : Int), 0, false⟩] := lst_whole qu5 rfl wf1)
                | (at_builtin; refine wpList_append_lst (k := kT) (w := u5) rfl _ _ 28 34 rfl Tryd.underlying28 _ 40 info_task rfl w.heap.size u5.heap.size wr.heap.size 0 1 1 (.slice A2 n2 c2) _ [⟨4, 0, (m : Int), 0, false⟩] rfl rfl o5 l5 (by rw [HN2.out]; omega) (by omega) (by have := gu5.size; omega) ?_; intro v6 u6 o6 g6 n6))
              obtain ⟨A6, n6', c6, rfl, _⟩ := o6.form2
              have qp5 := qp.grown gu5 (by simp)
              go_roundw
              case rel => exact ⟨m + 1, by omega, by go_num, by rw [HST.out, ← List.append_assoc]; exact o6, qp5.grown g6 (own_tq o5 qp5 (by decide)), (bw.grown gu5 hwz (by simp)).grown g6 (by have := gu5.size; omega) (fun r e => (o5.lt r e).1)⟩
              case measure => simp [intOf]; omega
            · obtain rfl : M = m := by omega
              have hlt' : ¬ (M : Int) < (M : Int) := by omega
              obtain ⟨L4, hL4⟩ : ∃ L4, L3 ++ (List.range M).map (oneT 4) = L4 := ⟨_, rfl⟩
              have HLL4 := Lib.hid hL4
              have HL5 : Hid (L4.length ≤ 360) := Lib.hid (by rw [← hL4]; have := HL4.out; simp; omega)
              rw [hL4] at hl HN2
              clear hn2 hL4 hlt hlt'
              go_wp2_with fail
              refine (HS.out 5 (.inr rfl) wr).mono ?_
              rintro e w2 ⟨As, ns, cs, rfl, hns, os, b2⟩
              have hl2 := hl.below b2
              have bw2 := bw.trans (b2.mono hwz)
              have ls : Lst kT w2 w2.heap.size As ns (sortsT 5 M T) := OwnL.lst os (fun t ht => HSW.out 5 (.inr rfl) t ht)
              have hns2 : ns ≤ 240 := by have := hns.out; have := HSL.out 5; omega
              have hwz2 := bw2.size
              clear hl qp bw b2
              go_wp2_with (first
                | (at_builtin; refine Mg.wpList_append_all (k := kT) (w := w2) rfl _ _ 28 34 rfl Tryd.underlying28 _ 40 info_task rfl w.heap.size w2.heap.size ns cs As (.slice A2 n2 c2) L4 (sortsT 5 M T) rfl rfl hl2 ls (by have := HL5.out; omega) (by omega) hwz2 ?_; intro v3 w3 o3 g3 n3))
              have HTT := Lib.hid (show L4 ++ sortsT 5 M T = tasksT I mp M T by rw [← HLL4.out, ← HLL3.out, ← HLL2.out, ← HLL1.out]; rfl)
              rw [HTT.out] at o3
              obtain ⟨A3, n3', c3, rfl, hn3, _⟩ := o3.form2
              go_ret
              exact ⟨_, _, _, rfl, hn3, o3, bw2.grown g3 hwz2 (fun r e => (hl2.lt r e).1)⟩
end Go.Proofs.YtipmfficjomcoaaDoor.Sh
