/-
  The functions read, doubled, settled, times, reduced and lowest of package poly, each by its contract.
  The functions settled and reduced of package poly, each by its contract.
  The functions times and lowest of package poly, each by its contract.
-/
import Derived.Test.YtjelacblnjbfgaaDoorB11
import Derived.WalkMore
set_option linter.unusedVariables false
namespace Go.Proofs.YtjelacblnjbfgaaDoor.Po
open Go.RowKit Go.Shelf Mem Go.Proofs.YtjelacblnjbfgaaDoor.Sum
attribute [local irreducible] wpList wpListIn
theorem val_five {s : List Int} (h : Bs s) {q : Nat} (hq : q < 5) (hl : s.length = 5) : 0 ≤ val (s.take q) ∧ val (s.take q) < 2 ^ (8 * q) ∧ bits .or .u64 (val (s.take q)) (IntKind.u64.wrap (s.getD q 0 * 2 ^ (8 * q))) = val (s.take (q + 1)) := by
  have h0 := val_nonneg (xs := s.take q) fun z hz => (h z (List.mem_of_mem_take hz)).1
  have h1 := val_lt (xs := s.take q) fun z hz => h z (List.mem_of_mem_take hz)
  have hlt : (s.take q).length = q := by simp; omega
  rw [hlt] at h1
  have hv := val_take_succ s (j := q) (by omega)
  have hb := h.at_ q
  have e : (256 : Int) ^ q = 2 ^ (8 * q) := by rw [Int.pow_mul]; rfl
  rw [e] at h1 hv
  refine ⟨h0, h1, ?_⟩
  rw [hv]
  generalize val (s.take q) = v at *
  generalize s.getD q 0 = x at *
  rcases (show q = 0 ∨ q = 1 ∨ q = 2 ∨ q = 3 ∨ q = 4 by omega) with rfl | rfl | rfl | rfl | rfl <;>
    · simp only [Nat.reduceMul] at h1 ⊢
      rw [wraps_u64 _ (by omega) (by omega)]
      exact bits_join_low .u64 64 (by decide) (fun n h1 h2 => wraps_u64 n h1 h2) _ v (x * _) h0 h1 (by omega) (by omega) (by omega) (by omega)
set_option maxRecDepth 100000 in
theorem read_any (p : List Int) (w : World) (hp : p.length = 17) (hb : Bs p) :
    Calls Tryd.prog 53 #[.agg (arr .u8 p)] w fun e w' => e = .returned (.agg (arr .u64 (limbs (val p)))) ∧ Below w.heap.size w w' := by
  have HP := Lib.hid hp
  have HL := Lib.hid (limbs_length (val p))
  have HI := Lib.hid (fun i (h : i < 5) => limb_of hb hp h)
  have HLW := Lib.hid (show ∀ z ∈ limbs (val p), (Lit.int .u64 z).wf = true from fun z hz => wf_64 (by have := limbs_bound _ z hz; omega))
  have HV := Lib.hid (fun i (h : i < 5) => fun q (hq : q < 5) => val_five (s := (p.drop (3 * i)).take 5) (fun z hz => hb z (List.mem_of_mem_drop (List.mem_of_mem_take hz))) hq (by simp; omega))
  have HG := Lib.hid (fun i (h : i < 5) => fun q (hq : q < 5) => show p.getD (3 * i + q) 0 = ((p.drop (3 * i)).take 5).getD q 0 by simp [List.getD_eq_getElem?_getD, hq])
  clear hp
  go_enter Tryd.func53, Tryd.ntmps53
  go_wp2_with (first
    | (refine wpList_box_Row (w := w) rfl 104 _ rfl .u8 p rfl (bs_wf hb) ?_; intro w1 r1 g1 z1)
    | (refine wpList_alloc_Row (w := w1) rfl 102 rfl .u64 5 zero_num ?_; intro w2 r2 g2 z2)
    | (refine wpList_alloc_Row (w := w2) rfl 102 rfl .u64 5 zero_num ?_; intro w3 r3 g3 z3))
  obtain ⟨gr, hgr⟩ : ∃ g, w1.heap.size = g := ⟨_, rfl⟩
  obtain ⟨gn, hgn⟩ : ∃ g, w2.heap.size = g := ⟨_, rfl⟩
  have l1 := r1.lt
  have l2 := r2.lt
  have b3 : Below w.heap.size w w3 := (((Below.refl _ w).grown g1 (Nat.le_refl _) (by simp)).grown g2 g1.size (by simp)).grown g3 (by omega) (by simp)
  have p3 := (r1.grown g2 (by simp)).grown g3 (by simp)
  have q3 := r2.grown g3 (by simp)
  rw [hgr] at l1 l2 q3
  rw [hgn] at l2 r3
  rw [hgr, hgn]
  clear hgr hgn r1 r2 g1 g2 g3 z1 z2 z3
  go_loopw [8] (fun i wr => ∃ k : Nat, k ≤ 5 ∧ i = .int .i64 k ∧ Below w.heap.size w wr ∧ Row wr w.heap.size 104 .u8 p ∧ Row wr gn 102 .u64 (blend (limbs (val p)) (List.replicate 5 0) k) ∧ Row wr gr 102 .u64 (List.replicate 5 0)) (fun i _ => 5 - (intOf i).toNat)
  case atStart => exact ⟨0, by omega, rfl, b3, p3, by rw [blend_zero]; exact r3, q3⟩
  case round =>
    clear b3 p3 q3 r3
    obtain ⟨k, hk, rfl, hbl, pr, nr, er⟩ := hrel
    have hk0 : (0 : Int) ≤ (k : Int) := by omega
    by_cases hlt : k < 5
    · have hlt' : (k : Int) < 5 := by omega
      have hsl : ∀ W, (Instr.sliceAt 104 (.pointer (some ⟨w.heap.size, 0, none⟩)) (some (.int .i64 (3 * (k : Int)))) (some (.int .i64 (3 * (k : Int) + 5))) none).run Tryd.prog W = .ok (.slice (some ⟨w.heap.size, 3 * k, none⟩) 5 (17 - 3 * k)) W := fun W => by
        have := run_slice_arr_lh (P := Tryd.prog) 104 5 17 w.heap.size (3 * k) (3 * k + 5) W Tryd.underlying104 (by kernel_rfl) (by omega) (by omega) (by omega)
        rw [show 3 * k + 5 - 3 * k = 5 by omega] at this
        exact this
      go_wp2_with fail
      go_loop [5, 18] (fun f j => ∃ q : Nat, q ≤ 5 ∧ j = .int .i64 q ∧ f = .int .u64 (val (((p.drop (3 * k)).take 5).take q))) (fun _ j => 5 - (intOf j).toNat)
      case atStart => exact ⟨0, by omega, rfl, by simp [val]⟩
      case round =>
        obtain ⟨q, hq, rfl, rfl⟩ := hrel
        have hq0 : (0 : Int) ≤ (q : Int) := by omega
        by_cases hlq : q < 5
        · have hlq' : (q : Int) < 5 := by omega
          have hc := pr.cell (i := 3 * k + q) (by rw [HP.out]; omega)
          rw [HG.out k hlt q hlq] at hc
          obtain ⟨v0, v1, v2⟩ := HV.out k hlt q hlq
          have HV2 := Lib.hid v2
          have hx : IntKind.u64.wrap (((p.drop (3 * k)).take 5).getD q 0) = ((p.drop (3 * k)).take 5).getD q 0 := by
            have := Bs.at_ (bs := (p.drop (3 * k)).take 5) (fun z hz => hb z (List.mem_of_mem_drop (List.mem_of_mem_take hz))) q
            exact IntWalk.u64_in _ (by omega)
          clear v2 v1
          generalize ((p.drop (3 * k)).take 5).getD q 0 = x at *
          generalize val (((p.drop (3 * k)).take 5).take q) = v at *
          go_wp2_with fail
          go_round
          case rel => exact ⟨q + 1, by omega, by go_num, by rw [HV2.out]⟩
          case measure => simp [intOf]; omega
        · have hq5 : q = 5 := by omega
          subst hq5
          have hz := HI.out k hlt
          have hs0 := (HV.out k hlt 4 (by omega))
          have hv : val (((p.drop (3 * k)).take 5).take 5) = val ((p.drop (3 * k)).take 5) := by rw [List.take_take, Nat.min_self]
          have hn0 := val_nonneg (xs := (p.drop (3 * k)).take 5) fun z hz => (hb z (List.mem_of_mem_drop (List.mem_of_mem_take hz))).1
          have hn1 := val_lt (xs := (p.drop (3 * k)).take 5) fun z hz => hb z (List.mem_of_mem_drop (List.mem_of_mem_take hz))
          rw [show ((p.drop (3 * k)).take 5).length = 5 by simp; have := HP.out; omega] at hn1
          rw [hv]
          have hLen : (limbs (val p)).length = (List.replicate 5 (0 : Int)).length := by rw [HL.out]; simp
          have cn := nr.cell (i := k) (by rw [blend_length hLen]; simpa using hlt)
          have fn := nr.frozen k
          generalize (blend (limbs (val p)) (List.replicate 5 0) k).getD k 0 = old at cn
          have HS := Lib.hid (show Row (wr.setCell ⟨gn, k, none⟩ (.int .u64 ((limbs (val p)).getD k 0))) gn 102 .u64 (blend (limbs (val p)) (List.replicate 5 0) (k + 1)) by
            rw [← blend_set hLen (by simpa using hlt)]
            exact nr.set k (HLW.out _ (by rw [List.getD_eq_getElem?_getD, List.getElem?_eq_getElem (by rw [HL.out]; exact hlt)]; exact List.getElem_mem _)))
          have HE := er.other (p := ⟨gn, k, none⟩) (by simp; omega) (.int .u64 ((limbs (val p)).getD k 0))
          have HE2 := pr.other (p := ⟨gn, k, none⟩) (by simp; omega) (.int .u64 ((limbs (val p)).getD k 0))
          have HBL := Lib.hid (hbl.setCell (p := ⟨gn, k, none⟩) (by simp; omega) (.int .u64 ((limbs (val p)).getD k 0)))
          have hand : bits .and .u64 (val ((p.drop (3 * k)).take 5) / 2 ^ (2 * k)) 67108863 = (limbs (val p)).getD k 0 := by
            have hpp : (0 : Int) < 2 ^ (2 * k) := Int.pow_pos (by omega)
            have h1 := Int.ediv_nonneg hn0 (Int.le_of_lt hpp)
            have h2 := Int.ediv_le_self (2 ^ (2 * k)) hn0
            rw [mask_limb _ h1 (by omega)]
            exact hz
          clear hz hs0 hv hn1 nr er pr hbl hLen
          generalize val ((p.drop (3 * k)).take 5) = v at *
          generalize (limbs (val p)).getD k 0 = x at *
          go_wp2_with fail
          go_roundw
          case rel => exact ⟨k + 1, by omega, by go_num, HBL.out, HE2, HS.out, HE⟩
          case measure => simp [intOf]; omega
    · have hk5 : k = 5 := by omega
      subst hk5
      have hz : blend (limbs (val p)) (List.replicate 5 0) 5 = limbs (val p) := blend_all (F := limbs (val p)) (a := List.replicate 5 0) (by rw [HL.out]; simp)
      rw [hz] at nr
      clear hz hk0 hlt
      go_wp2_with (first
        | (refine wpList_load_Row (w := wr) rfl 102 _ rfl gn rfl 102 .u64 _ nr 5 23 Tryd.underlying102 info_num HL.out ?_)
        | (refine wpList_store_RowTo (w := wr) rfl 102 _ _ rfl gr rfl 102 .u64 _ (limbs (val p)) rfl er 5 info_num HL.out (by simp) HLW.out ?_; intro w8 q8 g8 z8))
      refine bodyPost_ret (results_Row rfl _ _ gr _ _ _ rfl q8 5 23 Tryd.underlying102 info_num HL.out) rfl ?_
      exact ⟨rfl, hbl.grown g8 hbl.size (fun r e => by cases e; omega)⟩
theorem map_get (r : List Int) {k : Nat} (hk : k < r.length) : (r.map (5 * ·)).getD k 0 = 5 * r.getD k 0 := by simp [List.getD_eq_getElem?_getD, hk]
def both (r : List Int) (k : Nat) : List Int := blend (r.map (5 * ·)) (List.replicate 5 0) k ++ blend r (List.replicate 5 0) k
theorem both_zero (r : List Int) : both r 0 = List.replicate 10 0 := by simp [both, blend]
theorem both_length {r : List Int} (h : r.length = 5) (k : Nat) : (both r k).length = 10 := by
  rw [both, List.length_append, blend_length (by simp [h]), blend_length (by simp [h])]
  simp
theorem both_end {r : List Int} (h : r.length = 5) : both r 5 = factors r := by
  have h1 := blend_all (F := r.map (5 * ·)) (a := List.replicate 5 0) (by simp [h])
  have h2 := blend_all (F := r) (a := List.replicate 5 0) (by simp [h])
  rw [List.length_replicate] at h1 h2
  rw [both, h1, h2, factors]
theorem both_set {r : List Int} (h : r.length = 5) {k : Nat} (hk : k < 5) : ((both r k).set k (5 * r.getD k 0)).set (5 + k) (r.getD k 0) = both r (k + 1) := by
  have h1 := blend_set (F := r.map (5 * ·)) (a := List.replicate 5 0) (by simp [h]) (i := k) (by simpa using hk)
  have h2 := blend_set (F := r) (a := List.replicate 5 0) (by simp [h]) (i := k) (by simpa using hk)
  have l1 : (blend (r.map (5 * ·)) (List.replicate 5 0) k).length = 5 := by rw [blend_length (by simp [h])]; simp
  rw [map_get r (by omega)] at h1
  rw [both, List.set_append_left _ _ (by omega), h1, List.set_append_right _ _ (by rw [blend_length (by simp [h])]; simp), blend_length (by simp [h]), List.length_replicate, Nat.add_sub_cancel_left, h2, both]
set_option maxRecDepth 100000 in
theorem doubled_any (r : List Int) (w : World) (hr : r.length = 5) (hb : ∀ x ∈ r, 0 ≤ x ∧ x < 67108864) :
    Calls Tryd.prog 56 #[.agg (arr .u64 r)] w fun e w' => e = .returned (.agg (arr .u64 (factors r))) ∧ Below w.heap.size w w' := by
  have HR := Lib.hid hr
  have HBS := Lib.hid (fun k (h : k < 5) => both_set hr h)
  have HBL := Lib.hid (fun k => both_length hr k)
  have HBE := Lib.hid (both_end hr)
  have HFL := Lib.hid (factors_length hr)
  have HFW := Lib.hid (show ∀ z ∈ factors r, (Lit.int .u64 z).wf = true from fun z hz => wf_64 (by have := factors_bound hb z hz; omega))
  have HRB := Lib.hid (fun i => getD_range (P := fun x => 0 ≤ x ∧ x < 67108864) hb (by omega) i)
  have hrw : ∀ z ∈ r, (Lit.int .u64 z).wf = true := fun z hz => wf_64 (by have := hb z hz; omega)
  clear hr hb
  go_enter Tryd.func56, Tryd.ntmps56
  go_wp2_with (first
    | (refine wpList_box_Row (w := w) rfl 102 _ rfl .u64 r rfl hrw ?_; intro w1 r1 g1 z1)
    | (refine wpList_alloc_Row (w := w1) rfl 107 rfl .u64 10 zero_ten ?_; intro w2 r2 g2 z2)
    | (refine wpList_alloc_Row (w := w2) rfl 107 rfl .u64 10 zero_ten ?_; intro w3 r3 g3 z3; have p3 := (r1.grown g2 (by simp)).grown g3 (by simp))
    | (refine wpList_load_Row (w := w3) rfl 102 _ rfl w.heap.size rfl 102 .u64 _ p3 5 23 Tryd.underlying102 info_num HR.out ?_))
  obtain ⟨gr, hgr⟩ : ∃ g, w1.heap.size = g := ⟨_, rfl⟩
  obtain ⟨gf, hgf⟩ : ∃ g, w2.heap.size = g := ⟨_, rfl⟩
  have l1 := r1.lt
  have l2 := r2.lt
  have b3 : Below w.heap.size w w3 := (((Below.refl _ w).grown g1 (Nat.le_refl _) (by simp)).grown g2 g1.size (by simp)).grown g3 (by omega) (by simp)
  have q3 := r2.grown g3 (by simp)
  rw [hgr] at l1 l2 q3
  rw [hgf] at l2 r3
  rw [hgr, hgf]
  clear hgr hgf r1 r2 g1 g2 g3 z1 z2 z3 p3
  go_loopw [7] (fun i wr => ∃ k : Nat, k ≤ 5 ∧ i = .int .i64 k ∧ Below w.heap.size w wr ∧ Row wr gf 107 .u64 (both r k) ∧ Row wr gr 107 .u64 (List.replicate 10 0)) (fun i _ => 5 - (intOf i).toNat)
  case atStart => exact ⟨0, by omega, rfl, b3, by rw [both_zero]; exact r3, q3⟩
  case round =>
    clear b3 q3 r3
    obtain ⟨k, hk, rfl, hbl, fr, er⟩ := hrel
    have hk0 : (0 : Int) ≤ (k : Int) := by omega
    by_cases hlt : k < 5
    · have hlt' : (k : Int) < 5 := by omega
      have hidx : ∀ W, (Instr.index 102 (.agg (arr .u64 r)) (.int .i64 (k : Int))).run Tryd.prog W = .ok (.int .u64 (r.getD k 0)) W := fun W =>
        run_index_arr 102 23 5 .u64 r k W Tryd.underlying102 (by kernel_rfl) (by kernel_rfl) HR.out hlt
      have hx := HRB.out k
      have hm : IntKind.u64.wrap (5 * r.getD k 0) = 5 * r.getD k 0 := IntWalk.u64_in _ (by omega)
      have HS := HBS.out k hlt
      have wx1 : (Lit.int .u64 (5 * r.getD k 0)).wf = true := wf_64 (by omega)
      have wx2 : (Lit.int .u64 (r.getD k 0)).wf = true := wf_64 (by omega)
      generalize r.getD k 0 = x at *
      go_wp2_with (first
        | (refine wpList_store_elem (w := wr) rfl 23 _ _ rfl gf k rfl 107 .u64 _ (5 * x) rfl fr (by rw [HBL.out]; omega) info_u64 wx1 ?_; intro w4 q4 g4 z4)
        | (refine wpList_store_elem (w := w4) rfl 23 _ _ rfl gf (5 + k) rfl 107 .u64 _ x rfl q4 (by rw [List.length_set, HBL.out]; omega) info_u64 wx2 ?_; intro w5 q5 g5 z5))
      go_roundw
      case rel => exact ⟨k + 1, by omega, by go_num, (hbl.grown g4 hbl.size (fun r e => by cases e; omega)).grown g5 (by have := hbl.size; have := g4.size; omega) (fun r e => by cases e; omega), by rw [← HS]; exact q5, (er.grown g4 (by intro e; injection e with e; omega)).grown g5 (by intro e; injection e with e; omega)⟩
      case measure => simp [intOf]; omega
    · have hk5 : k = 5 := by omega
      subst hk5
      rw [HBE.out] at fr
      clear hk0 hlt
      go_wp2_with (first
        | (refine wpList_load_Row (w := wr) rfl 107 _ rfl gf rfl 107 .u64 _ fr 10 23 Tryd.underlying107 info_ten HFL.out ?_)
        | (refine wpList_store_RowTo (w := wr) rfl 107 _ _ rfl gr rfl 107 .u64 _ (factors r) rfl er 10 info_ten HFL.out (by simp) HFW.out ?_; intro w8 q8 g8 z8))
      refine bodyPost_ret (results_Row rfl _ _ gr _ _ _ rfl q8 10 23 Tryd.underlying107 info_ten HFL.out) rfl ?_
      exact ⟨rfl, hbl.grown g8 hbl.size (fun r e => by cases e; omega)⟩
end Go.Proofs.YtjelacblnjbfgaaDoor.Po
namespace Go.Proofs.YtjelacblnjbfgaaDoor.Po
open Go.RowKit Go.Shelf Mem Go.Proofs.YtjelacblnjbfgaaDoor.Sum
attribute [local irreducible] wpList wpListIn
theorem getD_set_same (l : List Int) {i : Nat} (h : i < l.length) (x : Int) : (l.set i x).getD i 0 = x := by simp [List.getD_eq_getElem?_getD, h]
theorem settle_wf {n : List Int} (hl : n.length = 5) (h : ∀ x ∈ n, 0 ≤ x ∧ x < 1152921504606846976) : (settle n).length = 5 ∧ ∀ z ∈ settle n, (Lit.int .u64 z).wf = true :=
  ⟨(settle_settled hl h).length, fun z hz => wf_64 (by have := (settle_settled hl h).bound z hz; omega)⟩
set_option maxRecDepth 100000 in
theorem settled_any (n : List Int) (w : World) (hn : n.length = 5) (hb : ∀ x ∈ n, 0 ≤ x ∧ x < 1152921504606846976) :
    Calls Tryd.prog 70 #[.agg (arr .u64 n)] w fun e w' => e = .returned (.agg (arr .u64 (settle n))) ∧ Below w.heap.size w w' := by
  have HN := Lib.hid hn
  have HS := Lib.hid (settle_wf hn hb)
  have HO := Lib.hid (fun k => over_bound hb k)
  have HCL := Lib.hid ((carL_length 0 n).trans hn)
  have HCG := Lib.hid (fun k (h : k < 5) => carL_get 0 n k (by omega))
  have HOS := Lib.hid (fun k => show over 0 n (k + 1) = (n.getD k 0 + over 0 n k) / 67108864 from rfl)
  have HNB := Lib.hid (fun i => getD_range (P := fun x => 0 ≤ x ∧ x < 1152921504606846976) hb (by omega) i)
  have hnw : ∀ z ∈ n, (Lit.int .u64 z).wf = true := fun z hz => wf_64 (by have := hb z hz; omega)
  clear hn hb
  go_enter Tryd.func70, Tryd.ntmps70
  go_wp2_with (first
    | (refine wpList_box_Row (w := w) rfl 102 _ rfl .u64 n rfl hnw ?_; intro w1 r1 g1 z1)
    | (refine wpList_alloc_Row (w := w1) rfl 102 rfl .u64 5 zero_num ?_; intro w2 r2 g2 z2))
  obtain ⟨gr, hgr⟩ : ∃ g, w1.heap.size = g := ⟨_, rfl⟩
  have l1 := r1.lt
  have b2 : Below w.heap.size w w2 := ((Below.refl _ w).grown g1 (Nat.le_refl _) (by simp)).grown g2 g1.size (by simp)
  have p2 := r1.grown g2 (by simp)
  rw [hgr] at l1 r2 ⊢
  clear hgr r1 g1 g2 z1 z2
  go_loopw [3, 5] (fun o i wr => ∃ k : Nat, k ≤ 5 ∧ i = .int .i64 k ∧ o = .int .u64 (over 0 n k) ∧ Below w.heap.size w wr ∧ Row wr w.heap.size 102 .u64 (blend (carL 0 n) n k) ∧ Row wr gr 102 .u64 (List.replicate 5 0)) (fun _ i _ => 5 - (intOf i).toNat)
  case atStart => exact ⟨0, by omega, rfl, rfl, b2, by rw [blend_zero]; exact p2, r2⟩
  case round =>
    clear b2 p2 r2
    obtain ⟨k, hk, rfl, rfl, hbl, nr, er⟩ := hrel
    have hk0 : (0 : Int) ≤ (k : Int) := by omega
    by_cases hlt : k < 5
    · have hlt' : (k : Int) < 5 := by omega
      have hLen : (carL 0 n).length = n.length := by rw [HCL.out, HN.out]
      have hl5 : (blend (carL 0 n) n k).length = 5 := by rw [blend_length hLen, HN.out]
      have c0 := nr.cell (i := k) (by rw [hl5]; exact hlt)
      rw [blend_get hLen (by rw [HN.out]; exact hlt)] at c0
      have HSET := Lib.hid (blend_set hLen (i := k) (by rw [HN.out]; exact hlt))
      rw [HCG.out k hlt] at HSET
      have HNX := Lib.hid (HOS.out k)
      have ho := HO.out k
      have hx := HNB.out k
      generalize n.getD k 0 = x at *
      generalize over 0 n k = o at *
      have hadd : IntKind.u64.wrap (x + o) = x + o := IntWalk.u64_in _ (by omega)
      have hand := mask_limb (x + o) (by omega) (by omega)
      have w0 : (Lit.int .u64 (x + o)).wf = true := wf_64 (by omega)
      have w1' : (Lit.int .u64 ((x + o) % 67108864)).wf = true := wf_64 (by omega)
      have HL5 := Lib.hid hl5
      clear hl5 hLen
      go_wp2_with (first
        | (refine wpList_store_elem (w := wr) rfl 23 _ _ rfl w.heap.size k rfl 102 .u64 _ (x + o) rfl nr (by rw [HL5.out]; exact hlt) info_u64 w0 ?_; intro w4 q4 g4 z4; have c4 := q4.cell (i := k) (by rw [List.length_set, HL5.out]; exact hlt); rw [getD_set_same _ (by rw [HL5.out]; exact hlt)] at c4; clear c0)
        | (refine wpList_store_elem (w := w4) rfl 23 _ _ rfl w.heap.size k rfl 102 .u64 _ ((x + o) % 67108864) rfl q4 (by rw [List.length_set, HL5.out]; exact hlt) info_u64 w1' ?_; intro w5 q5 g5 z5))
      go_roundw
      case rel => exact ⟨k + 1, by omega, by go_num, by rw [HNX.out], (hbl.grown g4 hbl.size (fun r e => by cases e; omega)).grown g5 (by have := hbl.size; have := g4.size; omega) (fun r e => by cases e; omega), by rw [← HSET.out]; rwa [List.set_set] at q5, (er.grown g4 (by intro e; injection e with e; omega)).grown g5 (by intro e; injection e with e; omega)⟩
      case measure => simp [intOf]; omega
    · have hk5 : k = 5 := by omega
      subst hk5
      have hz : blend (carL 0 n) n 5 = carL 0 n := by
        have := blend_all (F := carL 0 n) (a := n) (by rw [HCL.out, HN.out])
        rwa [HN.out] at this
      rw [hz] at nr
      have ho := HO.out 5
      have hset : settle n = (((carL 0 n).set 0 ((carL 0 n).getD 0 0 + 5 * over 0 n 5)).set 1 ((carL 0 n).getD 1 0 + ((carL 0 n).getD 0 0 + 5 * over 0 n 5) / 67108864)).set 0 (((carL 0 n).getD 0 0 + 5 * over 0 n 5) % 67108864) := rfl
      have hm0 : 0 ≤ (carL 0 n).getD 0 0 ∧ (carL 0 n).getD 0 0 < 67108864 := by rw [HCG.out 0 (by omega)]; omega
      have hm1 : 0 ≤ (carL 0 n).getD 1 0 ∧ (carL 0 n).getD 1 0 < 67108864 := by rw [HCG.out 1 (by omega)]; omega
      obtain ⟨m0, m1, m2, m3, m4, hm⟩ := five HCL.out
      rw [hm] at nr hset hm0 hm1
      simp only [List.getD_cons_zero, List.getD_cons_succ, List.set_cons_zero, List.set_cons_succ] at hset hm0 hm1
      have HSE := Lib.hid hset
      clear hset hz hm hk0 hlt
      generalize over 0 n 5 = o at *
      have c0 := nr.cell (i := 0) (by simp)
      have c1 := nr.cell (i := 1) (by simp)
      simp only [List.getD_cons_zero, List.getD_cons_succ] at c0 c1
      have hmul : IntKind.u64.wrap (5 * o) = 5 * o := IntWalk.u64_in _ (by omega)
      have hadd : IntKind.u64.wrap (m0 + 5 * o) = m0 + 5 * o := IntWalk.u64_in _ (by omega)
      have hadd2 : IntKind.u64.wrap (m1 + (m0 + 5 * o) / 67108864) = m1 + (m0 + 5 * o) / 67108864 := IntWalk.u64_in _ (by omega)
      have hand := mask_limb (m0 + 5 * o) (by omega) (by omega)
      have w0 : (Lit.int .u64 (m0 + 5 * o)).wf = true := wf_64 (by omega)
      have w1' : (Lit.int .u64 (m1 + (m0 + 5 * o) / 67108864)).wf = true := wf_64 (by omega)
      have w2' : (Lit.int .u64 ((m0 + 5 * o) % 67108864)).wf = true := wf_64 (by omega)
      go_wp2_with (first
        | (refine wpList_store_elem (w := wr) rfl 23 _ _ rfl w.heap.size 0 rfl 102 .u64 _ (m0 + 5 * o) rfl nr (by simp) info_u64 w0 ?_; intro w4 q4 g4 z4; simp only [List.set_cons_zero] at q4; have c4 := q4.cell (i := 0) (by simp); have c5 := q4.cell (i := 1) (by simp); simp only [List.getD_cons_zero, List.getD_cons_succ] at c4 c5; clear c0 c1)
        | (refine wpList_store_elem (w := w4) rfl 23 _ _ rfl w.heap.size 1 rfl 102 .u64 _ (m1 + (m0 + 5 * o) / 67108864) rfl q4 (by simp) info_u64 w1' ?_; intro w5 q5 g5 z5; simp only [List.set_cons_zero, List.set_cons_succ] at q5; have c6 := q5.cell (i := 0) (by simp); simp only [List.getD_cons_zero] at c6; clear c4 c5)
        | (refine wpList_store_elem (w := w5) rfl 23 _ _ rfl w.heap.size 0 rfl 102 .u64 _ ((m0 + 5 * o) % 67108864) rfl q5 (by simp) info_u64 w2' ?_; intro w6 q6 g6 z6; simp only [List.set_cons_zero] at q6; rw [← HSE.out] at q6; clear c6; have e6 := ((er.grown g4 (by intro e; injection e with e; omega)).grown g5 (by intro e; injection e with e; omega)).grown g6 (by intro e; injection e with e; omega))
        | (refine wpList_load_Row (w := w6) rfl 102 _ rfl w.heap.size rfl 102 .u64 _ q6 5 23 Tryd.underlying102 info_num HS.out.1 ?_)
        | (refine wpList_store_RowTo (w := w6) rfl 102 _ _ rfl gr rfl 102 .u64 _ (settle n) rfl e6 5 info_num HS.out.1 (by simp) HS.out.2 ?_; intro w8 q8 g8 z8))
      refine bodyPost_ret (results_Row rfl _ _ gr _ _ _ rfl q8 5 23 Tryd.underlying102 info_num HS.out.1) rfl ?_
      have s0 := hbl.size
      have s4 := g4.size
      have s5 := g5.size
      have s6 := g6.size
      exact ⟨rfl, (((hbl.grown g4 s0 (fun r e => by cases e; omega)).grown g5 (by omega) (fun r e => by cases e; omega)).grown g6 (by omega) (fun r e => by cases e; omega)).grown g8 (by omega) (fun r e => by cases e; omega)⟩
theorem reduce_wf {a : List Int} (h : Settled a) : (reduce a).length = 5 ∧ (∀ z ∈ reduce a, (Lit.int .u64 z).wf = true) ∧ ∀ x ∈ reduce a, 0 ≤ x ∧ x < 134217728 := by
  have ho := over_eq h
  obtain ⟨a0, a1, a2, a3, a4, rfl, h⟩ := h
  have hO : 0 ≤ over 5 [a0, a1, a2, a3, a4] 5 ∧ over 5 [a0, a1, a2, a3, a4] 5 ≤ 1 := by
    rw [ho]
    simp only [lv]
    omega
  generalize over 5 [a0, a1, a2, a3, a4] 5 = O at hO
  have e : reduce [a0, a1, a2, a3, a4] = [a0 + 5 * over 5 [a0, a1, a2, a3, a4] 5, a1, a2, a3, a4] := rfl
  have hb : ∀ x ∈ reduce [a0, a1, a2, a3, a4], 0 ≤ x ∧ x < 134217728 := by
    intro x hx
    rw [e] at hx
    simp only [List.mem_cons, List.not_mem_nil, or_false] at hx
    have hO' : 0 ≤ over 5 [a0, a1, a2, a3, a4] 5 ∧ over 5 [a0, a1, a2, a3, a4] 5 ≤ 1 := by
      rw [ho]
      simp only [lv]
      omega
    omega
  exact ⟨rfl, fun z hz => wf_64 (by have := hb z hz; omega), hb⟩
theorem over5_bound {a : List Int} (h : Settled a) : ∀ k, 0 ≤ over 5 a k ∧ over 5 a k ≤ 5
  | 0 => by simp [over]
  | k + 1 => by
    have ih := over5_bound h k
    have := getD_range (P := fun x => 0 ≤ x ∧ x < 134217728) h.bound (by omega) k
    rw [over]
    omega
set_option maxRecDepth 100000 in
theorem reduced_any (a : List Int) (w : World) (h : Settled a) :
    Calls Tryd.prog 61 #[.agg (arr .u64 a)] w fun e w' => e = .returned (.agg (arr .u64 (reduce a))) ∧ Below w.heap.size w w' := by
  have HN := Lib.hid h.length
  have HR := Lib.hid (reduce_wf h)
  have HO := Lib.hid (fun k => over5_bound h k)
  have HOS := Lib.hid (fun k => show over 5 a (k + 1) = (a.getD k 0 + over 5 a k) / 67108864 from rfl)
  have HNB := Lib.hid (fun i => getD_range (P := fun x => 0 ≤ x ∧ x < 134217728) h.bound (by omega) i)
  have HRS := Lib.hid (show a.set 0 (a.getD 0 0 + 5 * over 5 a 5) = reduce a from rfl)
  have hnw : ∀ z ∈ a, (Lit.int .u64 z).wf = true := fun z hz => wf_64 (by have := h.bound z hz; omega)
  clear h
  go_enter Tryd.func61, Tryd.ntmps61
  go_wp2_with (first
    | (refine wpList_box_Row (w := w) rfl 102 _ rfl .u64 a rfl hnw ?_; intro w1 r1 g1 z1)
    | (refine wpList_alloc_Row (w := w1) rfl 102 rfl .u64 5 zero_num ?_; intro w2 r2 g2 z2; have p2 := r1.grown g2 (by simp))
    | (refine wpList_load_Row (w := w2) rfl 102 _ rfl w.heap.size rfl 102 .u64 _ p2 5 23 Tryd.underlying102 info_num HN.out ?_))
  obtain ⟨gr, hgr⟩ : ∃ g, w1.heap.size = g := ⟨_, rfl⟩
  have l1 := r1.lt
  have b2 : Below w.heap.size w w2 := ((Below.refl _ w).grown g1 (Nat.le_refl _) (by simp)).grown g2 g1.size (by simp)
  rw [hgr] at l1 r2 ⊢
  clear hgr r1 g1 g2 z1 z2
  go_loop [3, 7] (fun o i => ∃ k : Nat, k ≤ 5 ∧ i = .int .i64 k ∧ o = .int .u64 (over 5 a k)) (fun _ i => 5 - (intOf i).toNat)
  case atStart => exact ⟨0, by omega, rfl, rfl⟩
  case round =>
    obtain ⟨k, hk, rfl, rfl⟩ := hrel
    have hk0 : (0 : Int) ≤ (k : Int) := by omega
    by_cases hlt : k < 5
    · have hlt' : (k : Int) < 5 := by omega
      have hidx : ∀ W, (Instr.index 102 (.agg (arr .u64 a)) (.int .i64 (k : Int))).run Tryd.prog W = .ok (.int .u64 (a.getD k 0)) W := fun W =>
        run_index_arr 102 23 5 .u64 a k W Tryd.underlying102 (by kernel_rfl) (by kernel_rfl) HN.out hlt
      have HNX := Lib.hid (HOS.out k)
      have ho := HO.out k
      have hx := HNB.out k
      generalize a.getD k 0 = x at *
      generalize over 5 a k = o at *
      have hadd : IntKind.u64.wrap (x + o) = x + o := IntWalk.u64_in _ (by omega)
      go_wp2_with fail
      go_round
      case rel => exact ⟨k + 1, by omega, by go_num, by rw [HNX.out]⟩
      case measure => simp [intOf]; omega
    · have hk5 : k = 5 := by omega
      subst hk5
      have ho := HO.out 5
      have hx := HNB.out 0
      have c0 := p2.cell (i := 0) (by rw [HN.out]; omega)
      have HRS' := HRS
      generalize a.getD 0 0 = x at *
      generalize over 5 a 5 = o at *
      have hmul : IntKind.u64.wrap (5 * o) = 5 * o := IntWalk.u64_in _ (by omega)
      have hadd : IntKind.u64.wrap (x + 5 * o) = x + 5 * o := IntWalk.u64_in _ (by omega)
      have w0 : (Lit.int .u64 (x + 5 * o)).wf = true := wf_64 (by omega)
      go_wp2_with (first
        | (refine wpList_store_elem (w := w2) rfl 23 _ _ rfl w.heap.size 0 rfl 102 .u64 _ (x + 5 * o) rfl p2 (by rw [HN.out]; omega) info_u64 w0 ?_; intro w4 q4 g4 z4; rw [HRS.out] at q4; have e4 := r2.grown g4 (by intro e; injection e with e; omega))
        | (refine wpList_load_Row (w := w4) rfl 102 _ rfl w.heap.size rfl 102 .u64 _ q4 5 23 Tryd.underlying102 info_num HR.out.1 ?_)
        | (refine wpList_store_RowTo (w := w4) rfl 102 _ _ rfl gr rfl 102 .u64 _ (reduce a) rfl e4 5 info_num HR.out.1 (by simp) HR.out.2.1 ?_; intro w8 q8 g8 z8))
      refine bodyPost_ret (results_Row rfl _ _ gr _ _ _ rfl q8 5 23 Tryd.underlying102 info_num HR.out.1) rfl ?_
      exact ⟨rfl, (b2.grown g4 b2.size (fun r e => by cases e; omega)).grown g8 (by have := b2.size; have := g4.size; omega) (fun r e => by cases e; omega)⟩
end Go.Proofs.YtjelacblnjbfgaaDoor.Po
namespace Go.Proofs.YtjelacblnjbfgaaDoor.Po
open Go.RowKit Go.Shelf Mem Go.Proofs.YtjelacblnjbfgaaDoor.Sum
attribute [local irreducible] wpList wpListIn
set_option maxRecDepth 100000 in
theorem times_any (a r : List Int) (w : World) (ha : a.length = 5) (hr : r.length = 5) (hab : ∀ x ∈ a, 0 ≤ x ∧ x < 268435456) (hrb : ∀ x ∈ r, 0 ≤ x ∧ x < 67108864) :
    Calls Tryd.prog 58 #[.agg (arr .u64 a), .agg (arr .u64 (factors r))] w fun e w' => e = .returned (.agg (arr .u64 (settle (mulL a r)))) ∧ Below w.heap.size w w' := by
  have HA := Lib.hid ha
  have HE := Lib.hid (mix_end a r)
  have HM := Lib.hid (mulL_length a r)
  have HMB := Lib.hid (mulL_bound hab hrb)
  have HS := Lib.hid (settle_wf (mulL_length a r) (mulL_bound hab hrb))
  have HFL := Lib.hid (factors_length hr)
  have HPB := Lib.hid (fun i j => psum_bound hab (factors_bound hrb) i j)
  have HAB := Lib.hid (fun i => getD_range (P := fun x => 0 ≤ x ∧ x < 268435456) hab (by omega) i)
  have HFB := Lib.hid (fun i => getD_range (P := fun x => 0 ≤ x ∧ x < 536870912) (factors_bound hrb) (by omega) i)
  have haw : ∀ z ∈ a, (Lit.int .u64 z).wf = true := fun z hz => wf_64 (by have := hab z hz; omega)
  have hfw : ∀ z ∈ factors r, (Lit.int .u64 z).wf = true := fun z hz => wf_64 (by have := factors_bound hrb z hz; omega)
  have hmw : ∀ z ∈ mulL a r, (Lit.int .u64 z).wf = true := fun z hz => wf_64 (by have := mulL_bound hab hrb z hz; omega)
  generalize factors r = f at *
  clear ha hr hab hrb
  have HSUM := HPB
  go_enter Tryd.func58, Tryd.ntmps58
  go_wp2_with (first
    | (refine wpList_box_Row (w := w) rfl 102 _ rfl .u64 a rfl haw ?_; intro w1 r1 g1 z1)
    | (refine wpList_box_Row (w := w1) rfl 107 _ rfl .u64 f rfl hfw ?_; intro w2 r2 g2 z2)
    | (refine wpList_alloc_Row (w := w2) rfl 102 rfl .u64 5 zero_num ?_; intro w3 r3 g3 z3)
    | (refine wpList_alloc_Row (w := w3) rfl 102 rfl .u64 5 zero_num ?_; intro w4 r4 g4 z4; have p4 := ((r1.grown g2 (by simp)).grown g3 (by simp)).grown g4 (by simp))
    | (refine wpList_load_Row (w := w4) rfl 102 _ rfl w.heap.size rfl 102 .u64 _ p4 5 23 Tryd.underlying102 info_num HA.out ?_))
  obtain ⟨gf, hgf⟩ : ∃ g, w1.heap.size = g := ⟨_, rfl⟩
  obtain ⟨gr, hgr⟩ : ∃ g, w2.heap.size = g := ⟨_, rfl⟩
  obtain ⟨gp, hgp⟩ : ∃ g, w3.heap.size = g := ⟨_, rfl⟩
  have l1 := r1.lt
  have l2 := r2.lt
  have l3 := r3.lt
  have b4 : Below w.heap.size w w4 := ((((Below.refl _ w).grown g1 (Nat.le_refl _) (by simp)).grown g2 g1.size (by simp)).grown g3 (by omega) (by simp)).grown g4 (by omega) (by simp)
  have f4 := (r2.grown g3 (by simp)).grown g4 (by simp)
  have e4 := r3.grown g4 (by simp)
  rw [hgf] at l1 l2 f4
  rw [hgr] at l2 l3 e4
  rw [hgp] at l3 r4
  rw [hgf, hgr, hgp]
  clear hgf hgr hgp r1 r2 r3 g1 g2 g3 g4 z1 z2 z3 z4 p4
  go_loopw [11] (fun i wr => ∃ k : Nat, k ≤ 5 ∧ i = .int .i64 k ∧ Below w.heap.size w wr ∧ Row wr gf 107 .u64 f ∧ Row wr gp 102 .u64 (mix a f k 0) ∧ Row wr gr 102 .u64 (List.replicate 5 0)) (fun i _ => 5 - (intOf i).toNat)
  case atStart => exact ⟨0, by omega, rfl, b4, f4, by rw [mix_start]; exact r4, e4⟩
  case round =>
    clear b4 f4 e4 r4
    obtain ⟨k, hk, rfl, hbl, fr, pr, er⟩ := hrel
    have hk0 : (0 : Int) ≤ (k : Int) := by omega
    by_cases hlt : k < 5
    · have hlt' : (k : Int) < 5 := by omega
      have hsl : ∀ W, (Instr.sliceAt 107 (.pointer (some ⟨gf, 0, none⟩)) (some (.int .i64 (5 - (k : Int)))) (some (.int .i64 (10 - (k : Int)))) none).run Tryd.prog W = .ok (.slice (some ⟨gf, 5 - k, none⟩) 5 (5 + k)) W := fun W => by
        have := run_slice_arr_lh (P := Tryd.prog) 107 23 10 gf (5 - k) (10 - k) W Tryd.underlying107 (by kernel_rfl) (by omega) (by omega) (by omega)
        rw [show ((5 - k : Nat) : Int) = 5 - (k : Int) by omega, show ((10 - k : Nat) : Int) = 10 - (k : Int) by omega, show 10 - k - (5 - k) = 5 by omega, show 10 - (5 - k) = 5 + k by omega] at this
        exact this
      have hidx : ∀ W, (Instr.index 102 (.agg (arr .u64 a)) (.int .i64 (k : Int))).run Tryd.prog W = .ok (.int .u64 (a.getD k 0)) W := fun W =>
        run_index_arr 102 23 5 .u64 a k W Tryd.underlying102 (by kernel_rfl) (by kernel_rfl) HA.out hlt
      have hx := HAB.out k
      have HXE : ∃ x, Hid (a.getD k 0 = x) := ⟨_, Lib.hid rfl⟩
      obtain ⟨x, HXE⟩ := HXE
      rw [HXE.out] at hidx hx
      go_wp2_with fail
      go_loopw [21] (fun j wr => ∃ q : Nat, q ≤ 5 ∧ j = .int .i64 q ∧ Below w.heap.size w wr ∧ Row wr gf 107 .u64 f ∧ Row wr gp 102 .u64 (mix a f k q) ∧ Row wr gr 102 .u64 (List.replicate 5 0)) (fun j _ => 5 - (intOf j).toNat)
      case atStart => exact ⟨0, by omega, rfl, hbl, fr, pr, er⟩
      case round =>
        clear hbl fr pr er
        obtain ⟨q, hq, rfl, hbl, fr, pr, er⟩ := hrel
        have hq0 : (0 : Int) ≤ (q : Int) := by omega
        by_cases hlq : q < 5
        · have hlq' : (q : Int) < 5 := by omega
          have cf := fr.cell (i := 5 - k + q) (by rw [HFL.out]; omega)
          have cp := pr.cell (i := q) (by rw [mix_length]; exact hlq)
          rw [mix_get a f k hlq] at cp
          have HX := mix_set a f k hlq
          rw [HXE.out] at HX
          have HX := Lib.hid HX
          have hs := HSUM.out k q
          have hy := HFB.out (5 - k + q)
          have hk5 : (k : Int) * 144115188075855872 ≤ 4 * 144115188075855872 := by omega
          generalize f.getD (5 - k + q) 0 = y at *
          generalize psum a f k q = s at *
          have m1 : 0 ≤ x * y := Int.mul_nonneg hx.1 hy.1
          have m2 : x * y ≤ 268435456 * 536870912 := Int.mul_le_mul (by omega) (by omega) hy.1 (by omega)
          have hmul : IntKind.u64.wrap (x * y) = x * y := IntWalk.u64_in _ (by omega)
          have hadd : IntKind.u64.wrap (s + x * y) = s + x * y := IntWalk.u64_in _ (by omega)
          have w0 : (Lit.int .u64 (s + x * y)).wf = true := wf_64 (by omega)
          go_wp2_with (refine wpList_store_elem (w := wr) rfl 23 _ _ rfl gp q rfl 102 .u64 _ (s + x * y) rfl pr (by rw [mix_length]; exact hlq) info_u64 w0 ?_; intro w5 q5 g5 z5; rw [HX.out] at q5)
          go_roundw
          case rel => exact ⟨q + 1, by omega, by go_num, hbl.grown g5 hbl.size (fun r e => by cases e; omega), fr.grown g5 (by intro e; injection e with e; omega), q5, er.grown g5 (by intro e; injection e with e; omega)⟩
          case measure => simp [intOf]; omega
        · have hq5 : q = 5 := by omega
          subst hq5
          rw [mix_next] at pr
          go_wp2_with fail
          go_roundw
          case rel => exact ⟨k + 1, by omega, by go_num, hbl, fr, pr, er⟩
          case measure => simp [intOf]; omega
    · have hk5 : k = 5 := by omega
      subst hk5
      rw [HE.out] at pr
      have HSL := Lib.hid HS.out.1
      clear hk0 hlt HSUM HPB HE
      go_wp2_with (refine wpList_load_Row (w := wr) rfl 102 _ rfl gp rfl 102 .u64 _ pr 5 23 Tryd.underlying102 info_num HM.out ?_)
      refine (settled_any _ _ HM.out HMB.out).mono ?_
      rintro e w7 ⟨rfl, hb7⟩
      have e7 := er.below hb7 er.lt
      have b7 := hbl.trans (hb7.mono hbl.size)
      go_wp2_with (refine wpList_store_RowTo (w := w7) rfl 102 _ _ rfl gr rfl 102 .u64 _ (settle (mulL a r)) rfl e7 5 info_num HSL.out (by simp) HS.out.2 ?_; intro w8 q8 g8 z8)
      refine bodyPost_ret (results_Row rfl _ _ gr _ _ _ rfl q8 5 23 Tryd.underlying102 info_num HSL.out) rfl ?_
      exact ⟨rfl, b7.grown g8 b7.size (fun r e => by cases e; omega)⟩
theorem digits_set_ok (n : Int) : ∀ z ∈ digits n 16, (Lit.int .u8 z).wf = true := bs_wf (digits_bytes 16 n)
set_option maxRecDepth 100000 in
theorem lowest_any (n : List Int) (w : World) (hn : n.length = 5) (hb : ∀ x ∈ n, 0 ≤ x ∧ x < 268435456) :
    Calls Tryd.prog 60 #[.agg (arr .u64 n)] w fun e w' => e = .returned (.agg (arr .u8 (digits (lv n) 16))) ∧ Below w.heap.size w w' := by
  have HN := Lib.hid hn
  have HL := Lib.hid (digits_length 16 (lv n))
  have HW := Lib.hid (digits_set_ok (lv n))
  have HG := Lib.hid (fun i (h : i < 16) => digits_get 16 (lv n) i h)
  have HNB := Lib.hid (fun i => getD_range (P := fun x => 0 ≤ x ∧ x < 268435456) hb (by omega) i)
  have HLIMB := Lib.hid (fun i b h rest (k : Low n i b h rest) (hi : i < 5) => k.limb (by omega) (getD_range (P := fun x => 0 ≤ x ∧ x < 268435456) hb (by omega) i))
  have hnw : ∀ z ∈ n, (Lit.int .u64 z).wf = true := fun z hz => wf_64 (by have := hb z hz; omega)
  clear hn hb
  go_enter Tryd.func60, Tryd.ntmps60
  go_wp2_with (first
    | (refine wpList_box_Row (w := w) rfl 102 _ rfl .u64 n rfl hnw ?_; intro w1 r1 g1 z1)
    | (refine wpList_alloc_Row (w := w1) rfl 55 rfl .u8 16 zero_16b ?_; intro w2 r2 g2 z2))
  apply wp_scope_straight
  go_wp2_with (refine wpList_alloc_Row (w := w2) rfl 55 rfl .u8 16 zero_16b ?_; intro w3 r3 g3 z3; have p3 := (r1.grown g2 (by simp)).grown g3 (by simp))
  apply wp_label
  go_wp2_with (refine wpList_load_Row (w := w3) rfl 102 _ rfl w.heap.size rfl 102 .u64 _ p3 5 23 Tryd.underlying102 info_num HN.out ?_)
  obtain ⟨gr, hgr⟩ : ∃ g, w1.heap.size = g := ⟨_, rfl⟩
  obtain ⟨gb, hgb⟩ : ∃ g, w2.heap.size = g := ⟨_, rfl⟩
  have l1 := r1.lt
  have l2 := r2.lt
  have b3 : Below w.heap.size w w3 := (((Below.refl _ w).grown g1 (Nat.le_refl _) (by simp)).grown g2 g1.size (by simp)).grown g3 (by omega) (by simp)
  have e3 := r2.grown g3 (by simp)
  rw [hgr] at l1 l2 e3
  rw [hgb] at l2 r3
  rw [hgr, hgb]
  clear hgr hgb r1 r2 g1 g2 g3 z1 z2 z3 p3
  go_loopw [4, 5, 6, 10] (fun s h b i wr => ∃ (k hh bb : Nat) (rest : Int), k ≤ 5 ∧ bb < 16 ∧ hh < 8 ∧ i = .int .i64 k ∧ s = .int .u64 rest ∧ h = .int .i64 hh ∧ b = .int .i64 bb ∧ Hid (Low n k bb hh rest) ∧ Below w.heap.size w wr ∧
    Row wr gb 55 .u8 (blend (digits (lv n) 16) (List.replicate 16 0) bb) ∧ Row wr gr 55 .u8 (List.replicate 16 0)) (fun _ _ _ i _ => 5 - (intOf i).toNat)
  case atStart => exact ⟨0, 0, 0, 0, by omega, by omega, by omega, rfl, rfl, rfl, rfl, Lib.hid (Low.start n), b3, by rw [blend_zero]; exact r3, e3⟩
  case round =>
    clear b3 e3 r3
    obtain ⟨k, hh, bb, rest, hk, hbb, hhh, rfl, rfl, rfl, rfl, hlow, hbl, br, er⟩ := hrel
    have hk0 : (0 : Int) ≤ (k : Int) := by omega
    by_cases hlt : k < 5
    · have hlt' : (k : Int) < 5 := by omega
      have hidx : ∀ W, (Instr.index 102 (.agg (arr .u64 n)) (.int .i64 (k : Int))).run Tryd.prog W = .ok (.int .u64 (n.getD k 0)) W := fun W =>
        run_index_arr 102 23 5 .u64 n k W Tryd.underlying102 (by kernel_rfl) (by kernel_rfl) HN.out hlt
      have hx := HNB.out k
      have hlow2 := HLIMB.out k bb hh rest hlow.out hlt
      obtain ⟨_, _, lr0, lr1⟩ := hlow.out
      have HLOW2 := Lib.hid hlow2
      obtain ⟨_, _, ls0, ls1⟩ := hlow2
      generalize n.getD k 0 = x at *
      have hp1 : (0 : Int) < 2 ^ hh := Int.pow_pos (by omega)
      have hp2 : (2 : Int) ^ (hh + 26 + 3) ≤ 2 ^ 36 := by
        rcases (show hh = 0 ∨ hh = 1 ∨ hh = 2 ∨ hh = 3 ∨ hh = 4 ∨ hh = 5 ∨ hh = 6 ∨ hh = 7 by omega) with rfl | rfl | rfl | rfl | rfl | rfl | rfl | rfl <;> decide
      have hm0 : 0 ≤ x * 2 ^ hh := Int.mul_nonneg hx.1 (by omega)
      have hmul : IntKind.u64.wrap (x * 2 ^ hh) = x * 2 ^ hh := IntWalk.u64_in _ (by omega)
      have hadd : IntKind.u64.wrap (rest + x * 2 ^ hh) = rest + x * 2 ^ hh := IntWalk.u64_in _ (by omega)
      go_wp2_with fail
      go_loopw [4, 5, 6] (fun s h b wr => ∃ (hh bb : Nat) (rest : Int), bb < 16 ∧ hh ≤ 33 ∧ s = .int .u64 rest ∧ h = .int .i64 hh ∧ b = .int .i64 bb ∧ Hid (Low n (k + 1) bb hh rest) ∧ Below w.heap.size w wr ∧
        Row wr gb 55 .u8 (blend (digits (lv n) 16) (List.replicate 16 0) bb) ∧ Row wr gr 55 .u8 (List.replicate 16 0)) (fun _ h _ _ => (intOf h).toNat)
      case atStart => exact ⟨hh + 26, bb, _, hbb, by omega, rfl, by go_num, rfl, HLOW2, hbl, br, er⟩
      case round =>
        clear hbl br er HLOW2 hmul hadd hm0 hp1 hp2 lr0 lr1 ls0 ls1 hlow hhh hbb
        obtain ⟨h2, b2, r2, hbb, hhh, rfl, rfl, rfl, hlow, hbl, br, er⟩ := hrel
        by_cases hge : 8 ≤ h2
        · have hge' : (8 : Int) ≤ (h2 : Int) := by omega
          obtain ⟨_, _, lr0, lr1⟩ := hlow.out
          have hnext := hlow.out.byte hge
          rw [← HG.out b2 hbb] at hnext
          have hLen : (digits (lv n) 16).length = (List.replicate 16 (0 : Int)).length := by rw [HL.out]; simp
          have hl16 : (blend (digits (lv n) 16) (List.replicate 16 0) b2).length = 16 := by rw [blend_length hLen]; simp
          have hset := blend_set hLen (i := b2) (by simpa using hbb)
          rw [← hnext.2] at hset
          have HNEXT := Lib.hid hnext.1
          have HSET := Lib.hid hset
          have HL16 := Lib.hid hl16
          have hcv : IntKind.u8.wrap r2 = r2 % 256 := by simp [IntKind.wrap, IntKind.bits, IntKind.signed]
          have w0 : (Lit.int .u8 (r2 % 256)).wf = true := wf_byte (by omega)
          have hb0 : (0 : Int) ≤ (b2 : Int) := by omega
          have hb1 : (b2 : Int) < 16 := by omega
          clear hnext hset hl16 hLen lr1
          by_cases hend : b2 + 1 = 16
          · have hend' : (b2 : Int) + 1 = 16 := by omega
            have hall : Hid (blend (digits (lv n) 16) (List.replicate 16 0) (b2 + 1) = digits (lv n) 16) := Lib.hid (by
              rw [hend]
              exact blend_all (F := digits (lv n) 16) (a := List.replicate 16 0) (by rw [HL.out]; simp))
            go_wp2_with (first
              | (refine wpList_store_elem (w := wr) rfl 5 _ _ rfl gb b2 rfl 55 .u8 _ (r2 % 256) rfl br (by rw [HL16.out]; exact hbb) info_u8 w0 ?_; intro w5 q5 g5 z5; rw [HSET.out, hall.out] at q5; have e5 := er.grown g5 (by intro e; injection e with e; omega))
              | (refine wpList_load_Row (w := w5) rfl 55 _ rfl gb rfl 55 .u8 _ q5 16 5 Tryd.underlying55 info_16b HL.out ?_)
              | (refine wpList_store_RowTo (w := w5) rfl 55 _ _ rfl gr rfl 55 .u8 _ (digits (lv n) 16) rfl e5 16 info_16b HL.out (by simp) HW.out ?_; intro w8 q8 g8 z8))
            rw [Exit.noGoto_ret]
            refine bodyPost_ret (results_Row rfl _ _ gr _ _ _ rfl q8 16 5 Tryd.underlying55 info_16b HL.out) rfl ?_
            exact ⟨rfl, (hbl.grown g5 hbl.size (fun r e => by cases e; omega)).grown g8 (by have := hbl.size; have := g5.size; omega) (fun r e => by cases e; omega)⟩
          · have hend' : ¬ (b2 : Int) + 1 = 16 := by omega
            go_wp2_with (refine wpList_store_elem (w := wr) rfl 5 _ _ rfl gb b2 rfl 55 .u8 _ (r2 % 256) rfl br (by rw [HL16.out]; exact hbb) info_u8 w0 ?_; intro w5 q5 g5 z5; rw [HSET.out] at q5)
            go_roundw
            case rel => exact ⟨h2 - 8, b2 + 1, _, by omega, by omega, rfl, by go_num, by go_num, HNEXT, hbl.grown g5 hbl.size (fun r e => by cases e; omega), q5, er.grown g5 (by intro e; injection e with e; omega)⟩
            case measure => simp [intOf]; omega
        · have hge' : ¬ (8 : Int) ≤ (h2 : Int) := by omega
          go_wp2_with fail
          go_roundw
          case rel => exact ⟨k + 1, h2, b2, r2, by omega, hbb, by omega, by go_num, rfl, rfl, rfl, hlow, hbl, br, er⟩
          case measure => simp [intOf]; omega
    · exact absurd hlow.out.1 (by omega)
end Go.Proofs.YtjelacblnjbfgaaDoor.Po
