/-
  The functions read, doubled, settled, times, reduced and lowest of package poly, each by its contract. Conditions: bytes, limbs that are small enough.
-/
import Derived.Test.YtebkicikpeicmaaDoorPy1
namespace Go.Proofs.YtebkicikpeicmaaDoor.Po
open Go.RowKit Go.Shelf Go.Proofs.YtebkicikpeicmaaDoor.Mem Go.Proofs.YtebkicikpeicmaaDoor.Sum
set_option linter.unusedVariables false
attribute [local irreducible] wpList wpListIn

theorem val_five {s : List Int} (h : Bs s) {q : Nat} (hq : q < 5) (hl : s.length = 5) : 0 ≤ val (s.take q) ∧ val (s.take q) < 2 ^ (8 * q) ∧ bits .or .u64 (val (s.take q)) (IntKind.u64.wrap (s.getD q 0 * 2 ^ (8 * q))) = val (s.take (q + 1)) := by
  have h0 := val_nonneg (xs := s.take q) fun z hz => (h z (List.mem_of_mem_take hz)).1
  have h1 := val_lt (xs := s.take q) fun z hz => h z (List.mem_of_mem_take hz)
  have hlt : (s.take q).length = q := by simp; omega
  rw [hlt] at h1
  have hv := val_take_succ s (j := q) (by omega)
  have hb := h.at_ q
  have e : (256 : Int) ^ q = 2 ^ (8 * q) := by rw [Int.pow_mul]; rfl
  rw [e] at h1 hv
  refine ⟨h0, h1, ?_⟩
  rw [hv]
  generalize val (s.take q) = v at *
  generalize s.getD q 0 = x at *
  rcases (show q = 0 ∨ q = 1 ∨ q = 2 ∨ q = 3 ∨ q = 4 by omega) with rfl | rfl | rfl | rfl | rfl <;>
    · simp only [Nat.reduceMul] at h1 ⊢
      rw [wraps_u64 _ (by omega) (by omega)]
      exact bits_join_low .u64 64 (by decide) (fun n h1 h2 => wraps_u64 n h1 h2) _ v (x * _) h0 h1 (by omega) (by omega) (by omega) (by omega)
set_option maxRecDepth 100000 in
theorem read_any (p : List Int) (w : World) (hp : p.length = 17) (hb : Bs p) :
    Calls Tryd.prog 16 #[.agg (arr .u8 p)] w fun e w' => e = .returned (.agg (arr .u64 (limbs (val p)))) ∧ Below w.heap.size w w' := by
  have HP := Lib.hid hp
  have HL := Lib.hid (limbs_length (val p))
  have HI := Lib.hid (fun i (h : i < 5) => limb_of hb hp h)
  have HLW := Lib.hid (show ∀ z ∈ limbs (val p), (Lit.int .u64 z).wf = true from fun z hz => wf_64 (by have := limbs_bound _ z hz; omega))
  have HV := Lib.hid (fun i (h : i < 5) => fun q (hq : q < 5) => val_five (s := (p.drop (3 * i)).take 5) (fun z hz => hb z (List.mem_of_mem_drop (List.mem_of_mem_take hz))) hq (by simp; omega))
  have HG := Lib.hid (fun i (h : i < 5) => fun q (hq : q < 5) => show p.getD (3 * i + q) 0 = ((p.drop (3 * i)).take 5).getD q 0 by simp [List.getD_eq_getElem?_getD, hq])
  clear hp
  go_enter Tryd.func16, Tryd.ntmps16
  go_wp2_with (first
    | (refine wpList_box_Row (w := w) rfl 42 _ rfl .u8 p rfl (bs_wf hb) ?_; intro w1 r1 g1 z1)
    | (refine wpList_alloc_Row (w := w1) rfl 40 rfl .u64 5 zero_num ?_; intro w2 r2 g2 z2)
    | (refine wpList_alloc_Row (w := w2) rfl 40 rfl .u64 5 zero_num ?_; intro w3 r3 g3 z3))
  obtain ⟨gr, hgr⟩ : ∃ g, w1.heap.size = g := ⟨_, rfl⟩
  obtain ⟨gn, hgn⟩ : ∃ g, w2.heap.size = g := ⟨_, rfl⟩
  have l1 := r1.lt
  have l2 := r2.lt
  have b3 : Below w.heap.size w w3 := (((Below.refl _ w).grown g1 (Nat.le_refl _) (by simp)).grown g2 g1.size (by simp)).grown g3 (by omega) (by simp)
  have p3 := (r1.grown g2 (by simp)).grown g3 (by simp)
  have q3 := r2.grown g3 (by simp)
  rw [hgr] at l1 l2 q3
  rw [hgn] at l2 r3
  rw [hgr, hgn]
  clear hgr hgn r1 r2 g1 g2 g3 z1 z2 z3
  go_loopw [8] (fun i wr => ∃ k : Nat, k ≤ 5 ∧ i = .int .i64 k ∧ Below w.heap.size w wr ∧ Row wr w.heap.size 42 .u8 p ∧ Row wr gn 40 .u64 (blend (limbs (val p)) (List.replicate 5 0) k) ∧ Row wr gr 40 .u64 (List.replicate 5 0)) (fun i _ => 5 - (intOf i).toNat)
  case atStart => exact ⟨0, by omega, rfl, b3, p3, by rw [blend_zero]; exact r3, q3⟩
  case round =>
    clear b3 p3 q3 r3
    obtain ⟨k, hk, rfl, hbl, pr, nr, er⟩ := hrel
    have hk0 : (0 : Int) ≤ (k : Int) := by omega
    by_cases hlt : k < 5
    · have hlt' : (k : Int) < 5 := by omega
      have hsl : ∀ W, (Instr.sliceAt 42 (.pointer (some ⟨w.heap.size, 0, none⟩)) (some (.int .i64 (3 * (k : Int)))) (some (.int .i64 (3 * (k : Int) + 5))) none).run Tryd.prog W = .ok (.slice (some ⟨w.heap.size, 3 * k, none⟩) 5 (17 - 3 * k)) W := fun W => by
        have := run_slice_arr_lh (P := Tryd.prog) 42 5 17 w.heap.size (3 * k) (3 * k + 5) W Tryd.underlying42 (by kernel_rfl) (by omega) (by omega) (by omega)
        rw [show 3 * k + 5 - 3 * k = 5 by omega] at this
        exact this
      go_wp2_with fail
      go_loop [5, 18] (fun f j => ∃ q : Nat, q ≤ 5 ∧ j = .int .i64 q ∧ f = .int .u64 (val (((p.drop (3 * k)).take 5).take q))) (fun _ j => 5 - (intOf j).toNat)
      case atStart => exact ⟨0, by omega, rfl, by simp [val]⟩
      case round =>
        obtain ⟨q, hq, rfl, rfl⟩ := hrel
        have hq0 : (0 : Int) ≤ (q : Int) := by omega
        by_cases hlq : q < 5
        · have hlq' : (q : Int) < 5 := by omega
          have hc := pr.cell (i := 3 * k + q) (by rw [HP.out]; omega)
          rw [HG.out k hlt q hlq] at hc
          obtain ⟨v0, v1, v2⟩ := HV.out k hlt q hlq
          have HV2 := Lib.hid v2
          have hx : IntKind.u64.wrap (((p.drop (3 * k)).take 5).getD q 0) = ((p.drop (3 * k)).take 5).getD q 0 := by
            have := Bs.at_ (bs := (p.drop (3 * k)).take 5) (fun z hz => hb z (List.mem_of_mem_drop (List.mem_of_mem_take hz))) q
            exact IntWalk.u64_in _ (by omega)
          clear v2 v1
          generalize ((p.drop (3 * k)).take 5).getD q 0 = x at *
          generalize val (((p.drop (3 * k)).take 5).take q) = v at *
          go_wp2_with fail
          go_round
          case rel => exact ⟨q + 1, by omega, by go_num, by rw [HV2.out]⟩
          case measure => simp [intOf]; omega
        · have hq5 : q = 5 := by omega
          subst hq5
          have hz := HI.out k hlt
          have hs0 := (HV.out k hlt 4 (by omega))
          have hv : val (((p.drop (3 * k)).take 5).take 5) = val ((p.drop (3 * k)).take 5) := by rw [List.take_take, Nat.min_self]
          have hn0 := val_nonneg (xs := (p.drop (3 * k)).take 5) fun z hz => (hb z (List.mem_of_mem_drop (List.mem_of_mem_take hz))).1
          have hn1 := val_lt (xs := (p.drop (3 * k)).take 5) fun z hz => hb z (List.mem_of_mem_drop (List.mem_of_mem_take hz))
          rw [show ((p.drop (3 * k)).take 5).length = 5 by simp; have := HP.out; omega] at hn1
          rw [hv]
          have hLen : (limbs (val p)).length = (List.replicate 5 (0 : Int)).length := by rw [HL.out]; simp
          have cn := nr.cell (i := k) (by rw [blend_length hLen]; simpa using hlt)
          have fn := nr.frozen k
          generalize (blend (limbs (val p)) (List.replicate 5 0) k).getD k 0 = old at cn
          have HS := Lib.hid (show Row (wr.setCell ⟨gn, k, none⟩ (.int .u64 ((limbs (val p)).getD k 0))) gn 40 .u64 (blend (limbs (val p)) (List.replicate 5 0) (k + 1)) by
            rw [← blend_set hLen (by simpa using hlt)]
            exact nr.set k (HLW.out _ (by rw [List.getD_eq_getElem?_getD, List.getElem?_eq_getElem (by rw [HL.out]; exact hlt)]; exact List.getElem_mem _)))
          have HE := er.other (p := ⟨gn, k, none⟩) (by simp; omega) (.int .u64 ((limbs (val p)).getD k 0))
          have HE2 := pr.other (p := ⟨gn, k, none⟩) (by simp; omega) (.int .u64 ((limbs (val p)).getD k 0))
          have HBL := Lib.hid (hbl.setCell (p := ⟨gn, k, none⟩) (by simp; omega) (.int .u64 ((limbs (val p)).getD k 0)))
          have hand : bits .and .u64 (val ((p.drop (3 * k)).take 5) / 2 ^ (2 * k)) 67108863 = (limbs (val p)).getD k 0 := by
            have hpp : (0 : Int) < 2 ^ (2 * k) := Int.pow_pos (by omega)
            have h1 := Int.ediv_nonneg hn0 (Int.le_of_lt hpp)
            have h2 := Int.ediv_le_self (2 ^ (2 * k)) hn0
            rw [mask_limb _ h1 (by omega)]
            exact hz
          clear hz hs0 hv hn1 nr er pr hbl hLen
          generalize val ((p.drop (3 * k)).take 5) = v at *
          generalize (limbs (val p)).getD k 0 = x at *
          go_wp2_with fail
          go_roundw
          case rel => exact ⟨k + 1, by omega, by go_num, HBL.out, HE2, HS.out, HE⟩
          case measure => simp [intOf]; omega
    · have hk5 : k = 5 := by omega
      subst hk5
      have hz : blend (limbs (val p)) (List.replicate 5 0) 5 = limbs (val p) := blend_all (F := limbs (val p)) (a := List.replicate 5 0) (by rw [HL.out]; simp)
      rw [hz] at nr
      clear hz hk0 hlt
      go_wp2_with (first
        | (refine wpList_load_Row (w := wr) rfl 40 _ rfl gn rfl 40 .u64 _ nr 5 38 Tryd.underlying40 info_num HL.out ?_)
        | (refine wpList_store_RowTo (w := wr) rfl 40 _ _ rfl gr rfl 40 .u64 _ (limbs (val p)) rfl er 5 info_num HL.out (by simp) HLW.out ?_; intro w8 q8 g8 z8))
      refine bodyPost_ret (results_Row rfl _ _ gr _ _ _ rfl q8 5 38 Tryd.underlying40 info_num HL.out) rfl ?_
      exact ⟨rfl, hbl.grown g8 hbl.size (fun r e => by cases e; omega)⟩

theorem map_get (r : List Int) {k : Nat} (hk : k < r.length) : (r.map (5 * ·)).getD k 0 = 5 * r.getD k 0 := by simp [List.getD_eq_getElem?_getD, hk]
/-- both halves, up to place k -/
def both (r : List Int) (k : Nat) : List Int := blend (r.map (5 * ·)) (List.replicate 5 0) k ++ blend r (List.replicate 5 0) k
theorem both_zero (r : List Int) : both r 0 = List.replicate 10 0 := by simp [both, blend]
theorem both_length {r : List Int} (h : r.length = 5) (k : Nat) : (both r k).length = 10 := by
  rw [both, List.length_append, blend_length (by simp [h]), blend_length (by simp [h])]
  simp
theorem both_end {r : List Int} (h : r.length = 5) : both r 5 = factors r := by
  have h1 := blend_all (F := r.map (5 * ·)) (a := List.replicate 5 0) (by simp [h])
  have h2 := blend_all (F := r) (a := List.replicate 5 0) (by simp [h])
  rw [List.length_replicate] at h1 h2
  rw [both, h1, h2, factors]
theorem both_set {r : List Int} (h : r.length = 5) {k : Nat} (hk : k < 5) : ((both r k).set k (5 * r.getD k 0)).set (5 + k) (r.getD k 0) = both r (k + 1) := by
  have h1 := blend_set (F := r.map (5 * ·)) (a := List.replicate 5 0) (by simp [h]) (i := k) (by simpa using hk)
  have h2 := blend_set (F := r) (a := List.replicate 5 0) (by simp [h]) (i := k) (by simpa using hk)
  have l1 : (blend (r.map (5 * ·)) (List.replicate 5 0) k).length = 5 := by rw [blend_length (by simp [h])]; simp
  rw [map_get r (by omega)] at h1
  rw [both, List.set_append_left _ _ (by omega), h1, List.set_append_right _ _ (by rw [blend_length (by simp [h])]; simp), blend_length (by simp [h]), List.length_replicate, Nat.add_sub_cancel_left, h2, both]
set_option maxRecDepth 100000 in
theorem doubled_any (r : List Int) (w : World) (hr : r.length = 5) (hb : ∀ x ∈ r, 0 ≤ x ∧ x < 67108864) :
    Calls Tryd.prog 18 #[.agg (arr .u64 r)] w fun e w' => e = .returned (.agg (arr .u64 (factors r))) ∧ Below w.heap.size w w' := by
  have HR := Lib.hid hr
  have HBS := Lib.hid (fun k (h : k < 5) => both_set hr h)
  have HBL := Lib.hid (fun k => both_length hr k)
  have HBE := Lib.hid (both_end hr)
  have HFL := Lib.hid (factors_length hr)
  have HFW := Lib.hid (show ∀ z ∈ factors r, (Lit.int .u64 z).wf = true from fun z hz => wf_64 (by have := factors_bound hb z hz; omega))
  have HRB := Lib.hid (fun i => getD_range (P := fun x => 0 ≤ x ∧ x < 67108864) hb (by omega) i)
  have hrw : ∀ z ∈ r, (Lit.int .u64 z).wf = true := fun z hz => wf_64 (by have := hb z hz; omega)
  clear hr hb
  go_enter Tryd.func18, Tryd.ntmps18
  go_wp2_with (first
    | (refine wpList_box_Row (w := w) rfl 40 _ rfl .u64 r rfl hrw ?_; intro w1 r1 g1 z1)
    | (refine wpList_alloc_Row (w := w1) rfl 44 rfl .u64 10 zero_ten ?_; intro w2 r2 g2 z2)
    | (refine wpList_alloc_Row (w := w2) rfl 44 rfl .u64 10 zero_ten ?_; intro w3 r3 g3 z3; have p3 := (r1.grown g2 (by simp)).grown g3 (by simp))
    | (refine wpList_load_Row (w := w3) rfl 40 _ rfl w.heap.size rfl 40 .u64 _ p3 5 38 Tryd.underlying40 info_num HR.out ?_))
  obtain ⟨gr, hgr⟩ : ∃ g, w1.heap.size = g := ⟨_, rfl⟩
  obtain ⟨gf, hgf⟩ : ∃ g, w2.heap.size = g := ⟨_, rfl⟩
  have l1 := r1.lt
  have l2 := r2.lt
  have b3 : Below w.heap.size w w3 := (((Below.refl _ w).grown g1 (Nat.le_refl _) (by simp)).grown g2 g1.size (by simp)).grown g3 (by omega) (by simp)
  have q3 := r2.grown g3 (by simp)
  rw [hgr] at l1 l2 q3
  rw [hgf] at l2 r3
  rw [hgr, hgf]
  clear hgr hgf r1 r2 g1 g2 g3 z1 z2 z3 p3
  go_loopw [7] (fun i wr => ∃ k : Nat, k ≤ 5 ∧ i = .int .i64 k ∧ Below w.heap.size w wr ∧ Row wr gf 44 .u64 (both r k) ∧ Row wr gr 44 .u64 (List.replicate 10 0)) (fun i _ => 5 - (intOf i).toNat)
  case atStart => exact ⟨0, by omega, rfl, b3, by rw [both_zero]; exact r3, q3⟩
  case round =>
    clear b3 q3 r3
    obtain ⟨k, hk, rfl, hbl, fr, er⟩ := hrel
    have hk0 : (0 : Int) ≤ (k : Int) := by omega
    by_cases hlt : k < 5
    · have hlt' : (k : Int) < 5 := by omega
      have hidx : ∀ W, (Instr.index 40 (.agg (arr .u64 r)) (.int .i64 (k : Int))).run Tryd.prog W = .ok (.int .u64 (r.getD k 0)) W := fun W =>
        run_index_arr 40 38 5 .u64 r k W Tryd.underlying40 (by kernel_rfl) (by kernel_rfl) HR.out hlt
      have hx := HRB.out k
      have hm : IntKind.u64.wrap (5 * r.getD k 0) = 5 * r.getD k 0 := IntWalk.u64_in _ (by omega)
      have HS := HBS.out k hlt
      have wx1 : (Lit.int .u64 (5 * r.getD k 0)).wf = true := wf_64 (by omega)
      have wx2 : (Lit.int .u64 (r.getD k 0)).wf = true := wf_64 (by omega)
      generalize r.getD k 0 = x at *
      go_wp2_with (first
        | (refine wpList_store_elem (w := wr) rfl 38 _ _ rfl gf k rfl 44 .u64 _ (5 * x) rfl fr (by rw [HBL.out]; omega) info_u64 wx1 ?_; intro w4 q4 g4 z4)
        | (refine wpList_store_elem (w := w4) rfl 38 _ _ rfl gf (5 + k) rfl 44 .u64 _ x rfl q4 (by rw [List.length_set, HBL.out]; omega) info_u64 wx2 ?_; intro w5 q5 g5 z5))
      go_roundw
      case rel => exact ⟨k + 1, by omega, by go_num, (hbl.grown g4 hbl.size (fun r e => by cases e; omega)).grown g5 (by have := hbl.size; have := g4.size; omega) (fun r e => by cases e; omega), by rw [← HS]; exact q5, (er.grown g4 (by intro e; injection e with e; omega)).grown g5 (by intro e; injection e with e; omega)⟩
      case measure => simp [intOf]; omega
    · have hk5 : k = 5 := by omega
      subst hk5
      rw [HBE.out] at fr
      clear hk0 hlt
      go_wp2_with (first
        | (refine wpList_load_Row (w := wr) rfl 44 _ rfl gf rfl 44 .u64 _ fr 10 38 Tryd.underlying44 info_ten HFL.out ?_)
        | (refine wpList_store_RowTo (w := wr) rfl 44 _ _ rfl gr rfl 44 .u64 _ (factors r) rfl er 10 info_ten HFL.out (by simp) HFW.out ?_; intro w8 q8 g8 z8))
      refine bodyPost_ret (results_Row rfl _ _ gr _ _ _ rfl q8 10 38 Tryd.underlying44 info_ten HFL.out) rfl ?_
      exact ⟨rfl, hbl.grown g8 hbl.size (fun r e => by cases e; omega)⟩
end Go.Proofs.YtebkicikpeicmaaDoor.Po

