/-
  The functions settled and reduced of package poly, each by its contract. Conditions: limbs that are small enough.
-/
import Derived.Test.YtebkicikpeicmaaDoorPy2
namespace Go.Proofs.YtebkicikpeicmaaDoor.Po
open Go.RowKit Go.Shelf Go.Proofs.YtebkicikpeicmaaDoor.Mem Go.Proofs.YtebkicikpeicmaaDoor.Sum
set_option linter.unusedVariables false
attribute [local irreducible] wpList wpListIn

theorem getD_set_same (l : List Int) {i : Nat} (h : i < l.length) (x : Int) : (l.set i x).getD i 0 = x := by simp [List.getD_eq_getElem?_getD, h]
theorem settle_wf {n : List Int} (hl : n.length = 5) (h : ∀ x ∈ n, 0 ≤ x ∧ x < 1152921504606846976) : (settle n).length = 5 ∧ ∀ z ∈ settle n, (Lit.int .u64 z).wf = true :=
  ⟨(settle_settled hl h).length, fun z hz => wf_64 (by have := (settle_settled hl h).bound z hz; omega)⟩
set_option maxRecDepth 100000 in
theorem settled_any (n : List Int) (w : World) (hn : n.length = 5) (hb : ∀ x ∈ n, 0 ≤ x ∧ x < 1152921504606846976) :
    Calls Tryd.prog 29 #[.agg (arr .u64 n)] w fun e w' => e = .returned (.agg (arr .u64 (settle n))) ∧ Below w.heap.size w w' := by
  have HN := Lib.hid hn
  have HS := Lib.hid (settle_wf hn hb)
  have HO := Lib.hid (fun k => over_bound hb k)
  have HCL := Lib.hid ((carL_length 0 n).trans hn)
  have HCG := Lib.hid (fun k (h : k < 5) => carL_get 0 n k (by omega))
  have HOS := Lib.hid (fun k => show over 0 n (k + 1) = (n.getD k 0 + over 0 n k) / 67108864 from rfl)
  have HNB := Lib.hid (fun i => getD_range (P := fun x => 0 ≤ x ∧ x < 1152921504606846976) hb (by omega) i)
  have hnw : ∀ z ∈ n, (Lit.int .u64 z).wf = true := fun z hz => wf_64 (by have := hb z hz; omega)
  clear hn hb
  go_enter Tryd.func29, Tryd.ntmps29
  go_wp2_with (first
    | (refine wpList_box_Row (w := w) rfl 40 _ rfl .u64 n rfl hnw ?_; intro w1 r1 g1 z1)
    | (refine wpList_alloc_Row (w := w1) rfl 40 rfl .u64 5 zero_num ?_; intro w2 r2 g2 z2))
  obtain ⟨gr, hgr⟩ : ∃ g, w1.heap.size = g := ⟨_, rfl⟩
  have l1 := r1.lt
  have b2 : Below w.heap.size w w2 := ((Below.refl _ w).grown g1 (Nat.le_refl _) (by simp)).grown g2 g1.size (by simp)
  have p2 := r1.grown g2 (by simp)
  rw [hgr] at l1 r2 ⊢
  clear hgr r1 g1 g2 z1 z2
  go_loopw [3, 5] (fun o i wr => ∃ k : Nat, k ≤ 5 ∧ i = .int .i64 k ∧ o = .int .u64 (over 0 n k) ∧ Below w.heap.size w wr ∧ Row wr w.heap.size 40 .u64 (blend (carL 0 n) n k) ∧ Row wr gr 40 .u64 (List.replicate 5 0)) (fun _ i _ => 5 - (intOf i).toNat)
  case atStart => exact ⟨0, by omega, rfl, rfl, b2, by rw [blend_zero]; exact p2, r2⟩
  case round =>
    clear b2 p2 r2
    obtain ⟨k, hk, rfl, rfl, hbl, nr, er⟩ := hrel
    have hk0 : (0 : Int) ≤ (k : Int) := by omega
    by_cases hlt : k < 5
    · have hlt' : (k : Int) < 5 := by omega
      have hLen : (carL 0 n).length = n.length := by rw [HCL.out, HN.out]
      have hl5 : (blend (carL 0 n) n k).length = 5 := by rw [blend_length hLen, HN.out]
      have c0 := nr.cell (i := k) (by rw [hl5]; exact hlt)
      rw [blend_get hLen (by rw [HN.out]; exact hlt)] at c0
      have HSET := Lib.hid (blend_set hLen (i := k) (by rw [HN.out]; exact hlt))
      rw [HCG.out k hlt] at HSET
      have HNX := Lib.hid (HOS.out k)
      have ho := HO.out k
      have hx := HNB.out k
      generalize n.getD k 0 = x at *
      generalize over 0 n k = o at *
      have hadd : IntKind.u64.wrap (x + o) = x + o := IntWalk.u64_in _ (by omega)
      have hand := mask_limb (x + o) (by omega) (by omega)
      have w0 : (Lit.int .u64 (x + o)).wf = true := wf_64 (by omega)
      have w1' : (Lit.int .u64 ((x + o) % 67108864)).wf = true := wf_64 (by omega)
      have HL5 := Lib.hid hl5
      clear hl5 hLen
      go_wp2_with (first
        | (refine wpList_store_elem (w := wr) rfl 38 _ _ rfl w.heap.size k rfl 40 .u64 _ (x + o) rfl nr (by rw [HL5.out]; exact hlt) info_u64 w0 ?_; intro w4 q4 g4 z4; have c4 := q4.cell (i := k) (by rw [List.length_set, HL5.out]; exact hlt); rw [getD_set_same _ (by rw [HL5.out]; exact hlt)] at c4; clear c0)
        | (refine wpList_store_elem (w := w4) rfl 38 _ _ rfl w.heap.size k rfl 40 .u64 _ ((x + o) % 67108864) rfl q4 (by rw [List.length_set, HL5.out]; exact hlt) info_u64 w1' ?_; intro w5 q5 g5 z5))
      go_roundw
      case rel => exact ⟨k + 1, by omega, by go_num, by rw [HNX.out], (hbl.grown g4 hbl.size (fun r e => by cases e; omega)).grown g5 (by have := hbl.size; have := g4.size; omega) (fun r e => by cases e; omega), by rw [← HSET.out]; rwa [List.set_set] at q5, (er.grown g4 (by intro e; injection e with e; omega)).grown g5 (by intro e; injection e with e; omega)⟩
      case measure => simp [intOf]; omega
    · have hk5 : k = 5 := by omega
      subst hk5
      have hz : blend (carL 0 n) n 5 = carL 0 n := by
        have := blend_all (F := carL 0 n) (a := n) (by rw [HCL.out, HN.out])
        rwa [HN.out] at this
      rw [hz] at nr
      have ho := HO.out 5
      have hset : settle n = (((carL 0 n).set 0 ((carL 0 n).getD 0 0 + 5 * over 0 n 5)).set 1 ((carL 0 n).getD 1 0 + ((carL 0 n).getD 0 0 + 5 * over 0 n 5) / 67108864)).set 0 (((carL 0 n).getD 0 0 + 5 * over 0 n 5) % 67108864) := rfl
      have hm0 : 0 ≤ (carL 0 n).getD 0 0 ∧ (carL 0 n).getD 0 0 < 67108864 := by rw [HCG.out 0 (by omega)]; omega
      have hm1 : 0 ≤ (carL 0 n).getD 1 0 ∧ (carL 0 n).getD 1 0 < 67108864 := by rw [HCG.out 1 (by omega)]; omega
      obtain ⟨m0, m1, m2, m3, m4, hm⟩ := five HCL.out
      rw [hm] at nr hset hm0 hm1
      simp only [List.getD_cons_zero, List.getD_cons_succ, List.set_cons_zero, List.set_cons_succ] at hset hm0 hm1
      have HSE := Lib.hid hset
      clear hset hz hm hk0 hlt
      generalize over 0 n 5 = o at *
      have c0 := nr.cell (i := 0) (by simp)
      have c1 := nr.cell (i := 1) (by simp)
      simp only [List.getD_cons_zero, List.getD_cons_succ] at c0 c1
      have hmul : IntKind.u64.wrap (5 * o) = 5 * o := IntWalk.u64_in _ (by omega)
      have hadd : IntKind.u64.wrap (m0 + 5 * o) = m0 + 5 * o := IntWalk.u64_in _ (by omega)
      have hadd2 : IntKind.u64.wrap (m1 + (m0 + 5 * o) / 67108864) = m1 + (m0 + 5 * o) / 67108864 := IntWalk.u64_in _ (by omega)
      have hand := mask_limb (m0 + 5 * o) (by omega) (by omega)
      have w0 : (Lit.int .u64 (m0 + 5 * o)).wf = true := wf_64 (by omega)
      have w1' : (Lit.int .u64 (m1 + (m0 + 5 * o) / 67108864)).wf = true := wf_64 (by omega)
      have w2' : (Lit.int .u64 ((m0 + 5 * o) % 67108864)).wf = true := wf_64 (by omega)
      go_wp2_with (first
        | (refine wpList_store_elem (w := wr) rfl 38 _ _ rfl w.heap.size 0 rfl 40 .u64 _ (m0 + 5 * o) rfl nr (by simp) info_u64 w0 ?_; intro w4 q4 g4 z4; simp only [List.set_cons_zero, List.set_cons_succ] at q4; have c4 := q4.cell (i := 0) (by simp); have c5 := q4.cell (i := 1) (by simp); simp only [List.getD_cons_zero, List.getD_cons_succ] at c4 c5; clear c0 c1)
        | (refine wpList_store_elem (w := w4) rfl 38 _ _ rfl w.heap.size 1 rfl 40 .u64 _ (m1 + (m0 + 5 * o) / 67108864) rfl q4 (by simp) info_u64 w1' ?_; intro w5 q5 g5 z5; simp only [List.set_cons_zero, List.set_cons_succ] at q5; have c6 := q5.cell (i := 0) (by simp); simp only [List.getD_cons_zero, List.getD_cons_succ] at c6; clear c4 c5)
        | (refine wpList_store_elem (w := w5) rfl 38 _ _ rfl w.heap.size 0 rfl 40 .u64 _ ((m0 + 5 * o) % 67108864) rfl q5 (by simp) info_u64 w2' ?_; intro w6 q6 g6 z6; simp only [List.set_cons_zero, List.set_cons_succ] at q6; rw [← HSE.out] at q6; clear c6; have e6 := ((er.grown g4 (by intro e; injection e with e; omega)).grown g5 (by intro e; injection e with e; omega)).grown g6 (by intro e; injection e with e; omega))
        | (refine wpList_load_Row (w := w6) rfl 40 _ rfl w.heap.size rfl 40 .u64 _ q6 5 38 Tryd.underlying40 info_num HS.out.1 ?_)
        | (refine wpList_store_RowTo (w := w6) rfl 40 _ _ rfl gr rfl 40 .u64 _ (settle n) rfl e6 5 info_num HS.out.1 (by simp) HS.out.2 ?_; intro w8 q8 g8 z8))
      refine bodyPost_ret (results_Row rfl _ _ gr _ _ _ rfl q8 5 38 Tryd.underlying40 info_num HS.out.1) rfl ?_
      have s0 := hbl.size
      have s4 := g4.size
      have s5 := g5.size
      have s6 := g6.size
      exact ⟨rfl, (((hbl.grown g4 s0 (fun r e => by cases e; omega)).grown g5 (by omega) (fun r e => by cases e; omega)).grown g6 (by omega) (fun r e => by cases e; omega)).grown g8 (by omega) (fun r e => by cases e; omega)⟩

theorem reduce_wf {a : List Int} (h : Settled a) : (reduce a).length = 5 ∧ (∀ z ∈ reduce a, (Lit.int .u64 z).wf = true) ∧ ∀ x ∈ reduce a, 0 ≤ x ∧ x < 134217728 := by
  have ho := over_eq h
  obtain ⟨a0, a1, a2, a3, a4, rfl, h⟩ := h
  have hO : 0 ≤ over 5 [a0, a1, a2, a3, a4] 5 ∧ over 5 [a0, a1, a2, a3, a4] 5 ≤ 1 := by
    rw [ho]
    simp only [lv]
    omega
  generalize over 5 [a0, a1, a2, a3, a4] 5 = O at hO
  have e : reduce [a0, a1, a2, a3, a4] = [a0 + 5 * over 5 [a0, a1, a2, a3, a4] 5, a1, a2, a3, a4] := rfl
  have hb : ∀ x ∈ reduce [a0, a1, a2, a3, a4], 0 ≤ x ∧ x < 134217728 := by
    intro x hx
    rw [e] at hx
    simp only [List.mem_cons, List.not_mem_nil, or_false] at hx
    have hO' : 0 ≤ over 5 [a0, a1, a2, a3, a4] 5 ∧ over 5 [a0, a1, a2, a3, a4] 5 ≤ 1 := by
      rw [ho]
      simp only [lv]
      omega
    omega
  exact ⟨rfl, fun z hz => wf_64 (by have := hb z hz; omega), hb⟩
theorem over5_bound {a : List Int} (h : Settled a) : ∀ k, 0 ≤ over 5 a k ∧ over 5 a k ≤ 5
  | 0 => by simp [over]
  | k + 1 => by
    have ih := over5_bound h k
    have := getD_range (P := fun x => 0 ≤ x ∧ x < 134217728) h.bound (by omega) k
    rw [over]
    omega
set_option maxRecDepth 100000 in
theorem reduced_any (a : List Int) (w : World) (h : Settled a) :
    Calls Tryd.prog 23 #[.agg (arr .u64 a)] w fun e w' => e = .returned (.agg (arr .u64 (reduce a))) ∧ Below w.heap.size w w' := by
  have HN := Lib.hid h.length
  have HR := Lib.hid (reduce_wf h)
  have HO := Lib.hid (fun k => over5_bound h k)
  have HOS := Lib.hid (fun k => show over 5 a (k + 1) = (a.getD k 0 + over 5 a k) / 67108864 from rfl)
  have HNB := Lib.hid (fun i => getD_range (P := fun x => 0 ≤ x ∧ x < 134217728) h.bound (by omega) i)
  have HRS := Lib.hid (show a.set 0 (a.getD 0 0 + 5 * over 5 a 5) = reduce a from rfl)
  have hnw : ∀ z ∈ a, (Lit.int .u64 z).wf = true := fun z hz => wf_64 (by have := h.bound z hz; omega)
  clear h
  go_enter Tryd.func23, Tryd.ntmps23
  go_wp2_with (first
    | (refine wpList_box_Row (w := w) rfl 40 _ rfl .u64 a rfl hnw ?_; intro w1 r1 g1 z1)
    | (refine wpList_alloc_Row (w := w1) rfl 40 rfl .u64 5 zero_num ?_; intro w2 r2 g2 z2; have p2 := r1.grown g2 (by simp))
    | (refine wpList_load_Row (w := w2) rfl 40 _ rfl w.heap.size rfl 40 .u64 _ p2 5 38 Tryd.underlying40 info_num HN.out ?_))
  obtain ⟨gr, hgr⟩ : ∃ g, w1.heap.size = g := ⟨_, rfl⟩
  have l1 := r1.lt
  have b2 : Below w.heap.size w w2 := ((Below.refl _ w).grown g1 (Nat.le_refl _) (by simp)).grown g2 g1.size (by simp)
  rw [hgr] at l1 r2 ⊢
  clear hgr r1 g1 g2 z1 z2
  go_loop [3, 7] (fun o i => ∃ k : Nat, k ≤ 5 ∧ i = .int .i64 k ∧ o = .int .u64 (over 5 a k)) (fun _ i => 5 - (intOf i).toNat)
  case atStart => exact ⟨0, by omega, rfl, rfl⟩
  case round =>
    obtain ⟨k, hk, rfl, rfl⟩ := hrel
    have hk0 : (0 : Int) ≤ (k : Int) := by omega
    by_cases hlt : k < 5
    · have hlt' : (k : Int) < 5 := by omega
      have hidx : ∀ W, (Instr.index 40 (.agg (arr .u64 a)) (.int .i64 (k : Int))).run Tryd.prog W = .ok (.int .u64 (a.getD k 0)) W := fun W =>
        run_index_arr 40 38 5 .u64 a k W Tryd.underlying40 (by kernel_rfl) (by kernel_rfl) HN.out hlt
      have HNX := Lib.hid (HOS.out k)
      have ho := HO.out k
      have hx := HNB.out k
      generalize a.getD k 0 = x at *
      generalize over 5 a k = o at *
      have hadd : IntKind.u64.wrap (x + o) = x + o := IntWalk.u64_in _ (by omega)
      go_wp2_with fail
      go_round
      case rel => exact ⟨k + 1, by omega, by go_num, by rw [HNX.out]⟩
      case measure => simp [intOf]; omega
    · have hk5 : k = 5 := by omega
      subst hk5
      have ho := HO.out 5
      have hx := HNB.out 0
      have c0 := p2.cell (i := 0) (by rw [HN.out]; omega)
      have HRS' := HRS
      generalize a.getD 0 0 = x at *
      generalize over 5 a 5 = o at *
      have hmul : IntKind.u64.wrap (5 * o) = 5 * o := IntWalk.u64_in _ (by omega)
      have hadd : IntKind.u64.wrap (x + 5 * o) = x + 5 * o := IntWalk.u64_in _ (by omega)
      have w0 : (Lit.int .u64 (x + 5 * o)).wf = true := wf_64 (by omega)
      go_wp2_with (first
        | (refine wpList_store_elem (w := w2) rfl 38 _ _ rfl w.heap.size 0 rfl 40 .u64 _ (x + 5 * o) rfl p2 (by rw [HN.out]; omega) info_u64 w0 ?_; intro w4 q4 g4 z4; rw [HRS.out] at q4; have e4 := r2.grown g4 (by intro e; injection e with e; omega))
        | (refine wpList_load_Row (w := w4) rfl 40 _ rfl w.heap.size rfl 40 .u64 _ q4 5 38 Tryd.underlying40 info_num HR.out.1 ?_)
        | (refine wpList_store_RowTo (w := w4) rfl 40 _ _ rfl gr rfl 40 .u64 _ (reduce a) rfl e4 5 info_num HR.out.1 (by simp) HR.out.2.1 ?_; intro w8 q8 g8 z8))
      refine bodyPost_ret (results_Row rfl _ _ gr _ _ _ rfl q8 5 38 Tryd.underlying40 info_num HR.out.1) rfl ?_
      exact ⟨rfl, (b2.grown g4 b2.size (fun r e => by cases e; omega)).grown g8 (by have := b2.size; have := g4.size; omega) (fun r e => by cases e; omega)⟩
end Go.Proofs.YtebkicikpeicmaaDoor.Po

