/-
  The functions read, doubled, settled, times, reduced and lowest of package poly, each by its contract. Conditions: bytes, limbs that are small enough.
  The functions settled and reduced of package poly, each by its contract. Conditions: limbs that are small enough.
  The functions times and lowest of package poly, each by its contract. Conditions: limbs that are small enough.
  The iterator over a message's pieces of package poly, by its contract: it hands out just the pieces, one by one. Conditions: at most 2^30 parts, of at most 2^40 bytes together.
  The function Tag of package poly by its contract: the tag is the one that the standard's own words say. Conditions: a key of 32 bytes; at most 2^30 parts, of at most 2^40 bytes together; the table of kept bits lies where the program's text lays it.
  The function tagOf of package aead by its contract: the tag of what stands beside and of what was turned. Conditions: a key of 32 bytes, a nonce of 12, at most 2^38 bytes each; the tables of packages chacha and poly lie where the program's text lays them.
  The function Blocks of package chacha by its contract: an iterator without end. Conditions: a key of 32 bytes, a nonce of 12, a counter of 32 bits; the table of package chacha lies where the program's text lays it.
  The function Xor of package chacha by its contract. Conditions: a key of 32 bytes, a nonce of 12, a counter of 32 bits, at most 2^44 bytes; the table of package chacha lies where the program's text lays it.
  The functions Own and Kept of package dominohelp on bytes, each by its contract. Conditions: the slices read as lists of bytes, of at most 2^40 bytes.
  What the laws on package chacha share: their first line returns true; what the rows' condition on the table gives. Conditions beyond those stated: none.
  What the laws on package poly share: Tag of no part, of one, of two and of three; their first line returns true; what the rows' condition on the table gives. Conditions: a key of 32 bytes, at most 2^40 bytes; the table of kept bits lies where the program's text lays it.
  Plain facts about the bits of unsigned numbers: no program here. Conditions: the numbers fit 64 bits.
  The functions of package ct, each by its contract: what it returns for any numbers. Conditions: the numbers fit their kinds.
-/
import Derived.Test.YtebcejncjljmhaaDoorB2
import Derived.WalkMore
import Derived.Test.YtebcejncjljmhaaDoorB3
import Derived.OneCell
import Derived.Test.YtebcejncjljmhaaDoorB1
import Derived.Deep.LoopGhost
import Derived.Laws.Slices
import Derived.WalkKit
import Derived.Test.YtebcejncjljmhaaDoorRows
import Derived.ProofKit
import Derived.OpenShut
import Derived.Lib.Hide
namespace Go.Proofs.YtebcejncjljmhaaDoor.Po
open Go.RowKit Go.Shelf Go.Proofs.YtebcejncjljmhaaDoor.Mem Go.Proofs.YtebcejncjljmhaaDoor.Sum
set_option linter.unusedVariables false
attribute [local irreducible] wpList wpListIn

theorem val_five {s : List Int} (h : Bs s) {q : Nat} (hq : q < 5) (hl : s.length = 5) : 0 ≤ val (s.take q) ∧ val (s.take q) < 2 ^ (8 * q) ∧ bits .or .u64 (val (s.take q)) (IntKind.u64.wrap (s.getD q 0 * 2 ^ (8 * q))) = val (s.take (q + 1)) := by
  have h0 := val_nonneg (xs := s.take q) fun z hz => (h z (List.mem_of_mem_take hz)).1
  have h1 := val_lt (xs := s.take q) fun z hz => h z (List.mem_of_mem_take hz)
  have hlt : (s.take q).length = q := by simp; omega
  rw [hlt] at h1
  have hv := val_take_succ s (j := q) (by omega)
  have hb := h.at_ q
  have e : (256 : Int) ^ q = 2 ^ (8 * q) := by rw [Int.pow_mul]; rfl
  rw [e] at h1 hv
  refine ⟨h0, h1, ?_⟩
  rw [hv]
  generalize val (s.take q) = v at *
  generalize s.getD q 0 = x at *
  rcases (show q = 0 ∨ q = 1 ∨ q = 2 ∨ q = 3 ∨ q = 4 by omega) with rfl | rfl | rfl | rfl | rfl <;>
    · simp only [Nat.reduceMul] at h1 ⊢
      rw [wraps_u64 _ (by omega) (by omega)]
      exact bits_join_low .u64 64 (by decide) (fun n h1 h2 => wraps_u64 n h1 h2) _ v (x * _) h0 h1 (by omega) (by omega) (by omega) (by omega)
set_option maxRecDepth 100000 in
theorem read_any (p : List Int) (w : World) (hp : p.length = 17) (hb : Bs p) :
    Calls Tryd.prog 42 #[.agg (arr .u8 p)] w fun e w' => e = .returned (.agg (arr .u64 (limbs (val p)))) ∧ Below w.heap.size w w' := by
  have HP := Lib.hid hp
  have HL := Lib.hid (limbs_length (val p))
  have HI := Lib.hid (fun i (h : i < 5) => limb_of hb hp h)
  have HLW := Lib.hid (show ∀ z ∈ limbs (val p), (Lit.int .u64 z).wf = true from fun z hz => wf_64 (by have := limbs_bound _ z hz; omega))
  have HV := Lib.hid (fun i (h : i < 5) => fun q (hq : q < 5) => val_five (s := (p.drop (3 * i)).take 5) (fun z hz => hb z (List.mem_of_mem_drop (List.mem_of_mem_take hz))) hq (by simp; omega))
  have HG := Lib.hid (fun i (h : i < 5) => fun q (hq : q < 5) => show p.getD (3 * i + q) 0 = ((p.drop (3 * i)).take 5).getD q 0 by simp [List.getD_eq_getElem?_getD, hq])
  clear hp
  go_enter Tryd.func42, Tryd.ntmps42
  go_wp2_with (first
    | (refine wpList_box_Row (w := w) rfl 65 _ rfl .u8 p rfl (bs_wf hb) ?_; intro w1 r1 g1 z1)
    | (refine wpList_alloc_Row (w := w1) rfl 63 rfl .u64 5 zero_num ?_; intro w2 r2 g2 z2)
    | (refine wpList_alloc_Row (w := w2) rfl 63 rfl .u64 5 zero_num ?_; intro w3 r3 g3 z3))
  obtain ⟨gr, hgr⟩ : ∃ g, w1.heap.size = g := ⟨_, rfl⟩
  obtain ⟨gn, hgn⟩ : ∃ g, w2.heap.size = g := ⟨_, rfl⟩
  have l1 := r1.lt
  have l2 := r2.lt
  have b3 : Below w.heap.size w w3 := (((Below.refl _ w).grown g1 (Nat.le_refl _) (by simp)).grown g2 g1.size (by simp)).grown g3 (by omega) (by simp)
  have p3 := (r1.grown g2 (by simp)).grown g3 (by simp)
  have q3 := r2.grown g3 (by simp)
  rw [hgr] at l1 l2 q3
  rw [hgn] at l2 r3
  rw [hgr, hgn]
  clear hgr hgn r1 r2 g1 g2 g3 z1 z2 z3
  go_loopw [8] (fun i wr => ∃ k : Nat, k ≤ 5 ∧ i = .int .i64 k ∧ Below w.heap.size w wr ∧ Row wr w.heap.size 65 .u8 p ∧ Row wr gn 63 .u64 (blend (limbs (val p)) (List.replicate 5 0) k) ∧ Row wr gr 63 .u64 (List.replicate 5 0)) (fun i _ => 5 - (intOf i).toNat)
  case atStart => exact ⟨0, by omega, rfl, b3, p3, by rw [blend_zero]; exact r3, q3⟩
  case round =>
    clear b3 p3 q3 r3
    obtain ⟨k, hk, rfl, hbl, pr, nr, er⟩ := hrel
    have hk0 : (0 : Int) ≤ (k : Int) := by omega
    by_cases hlt : k < 5
    · have hlt' : (k : Int) < 5 := by omega
      have hsl : ∀ W, (Instr.sliceAt 65 (.pointer (some ⟨w.heap.size, 0, none⟩)) (some (.int .i64 (3 * (k : Int)))) (some (.int .i64 (3 * (k : Int) + 5))) none).run Tryd.prog W = .ok (.slice (some ⟨w.heap.size, 3 * k, none⟩) 5 (17 - 3 * k)) W := fun W => by
        have := run_slice_arr_lh (P := Tryd.prog) 65 5 17 w.heap.size (3 * k) (3 * k + 5) W Tryd.underlying65 (by kernel_rfl) (by omega) (by omega) (by omega)
        rw [show 3 * k + 5 - 3 * k = 5 by omega] at this
        exact this
      go_wp2_with fail
      go_loop [5, 18] (fun f j => ∃ q : Nat, q ≤ 5 ∧ j = .int .i64 q ∧ f = .int .u64 (val (((p.drop (3 * k)).take 5).take q))) (fun _ j => 5 - (intOf j).toNat)
      case atStart => exact ⟨0, by omega, rfl, by simp [val]⟩
      case round =>
        obtain ⟨q, hq, rfl, rfl⟩ := hrel
        have hq0 : (0 : Int) ≤ (q : Int) := by omega
        by_cases hlq : q < 5
        · have hlq' : (q : Int) < 5 := by omega
          have hc := pr.cell (i := 3 * k + q) (by rw [HP.out]; omega)
          rw [HG.out k hlt q hlq] at hc
          obtain ⟨v0, v1, v2⟩ := HV.out k hlt q hlq
          have HV2 := Lib.hid v2
          have hx : IntKind.u64.wrap (((p.drop (3 * k)).take 5).getD q 0) = ((p.drop (3 * k)).take 5).getD q 0 := by
            have := Bs.at_ (bs := (p.drop (3 * k)).take 5) (fun z hz => hb z (List.mem_of_mem_drop (List.mem_of_mem_take hz))) q
            exact IntWalk.u64_in _ (by omega)
          clear v2 v1
          generalize ((p.drop (3 * k)).take 5).getD q 0 = x at *
          generalize val (((p.drop (3 * k)).take 5).take q) = v at *
          go_wp2_with fail
          go_round
          case rel => exact ⟨q + 1, by omega, by go_num, by rw [HV2.out]⟩
          case measure => simp [intOf]; omega
        · have hq5 : q = 5 := by omega
          subst hq5
          have hz := HI.out k hlt
          have hs0 := (HV.out k hlt 4 (by omega))
          have hv : val (((p.drop (3 * k)).take 5).take 5) = val ((p.drop (3 * k)).take 5) := by rw [List.take_take, Nat.min_self]
          have hn0 := val_nonneg (xs := (p.drop (3 * k)).take 5) fun z hz => (hb z (List.mem_of_mem_drop (List.mem_of_mem_take hz))).1
          have hn1 := val_lt (xs := (p.drop (3 * k)).take 5) fun z hz => hb z (List.mem_of_mem_drop (List.mem_of_mem_take hz))
          rw [show ((p.drop (3 * k)).take 5).length = 5 by simp; have := HP.out; omega] at hn1
          rw [hv]
          have hLen : (limbs (val p)).length = (List.replicate 5 (0 : Int)).length := by rw [HL.out]; simp
          have cn := nr.cell (i := k) (by rw [blend_length hLen]; simpa using hlt)
          have fn := nr.frozen k
          generalize (blend (limbs (val p)) (List.replicate 5 0) k).getD k 0 = old at cn
          have HS := Lib.hid (show Row (wr.setCell ⟨gn, k, none⟩ (.int .u64 ((limbs (val p)).getD k 0))) gn 63 .u64 (blend (limbs (val p)) (List.replicate 5 0) (k + 1)) by
            rw [← blend_set hLen (by simpa using hlt)]
            exact nr.set k (HLW.out _ (by rw [List.getD_eq_getElem?_getD, List.getElem?_eq_getElem (by rw [HL.out]; exact hlt)]; exact List.getElem_mem _)))
          have HE := er.other (p := ⟨gn, k, none⟩) (by simp; omega) (.int .u64 ((limbs (val p)).getD k 0))
          have HE2 := pr.other (p := ⟨gn, k, none⟩) (by simp; omega) (.int .u64 ((limbs (val p)).getD k 0))
          have HBL := Lib.hid (hbl.setCell (p := ⟨gn, k, none⟩) (by simp; omega) (.int .u64 ((limbs (val p)).getD k 0)))
          have hand : bits .and .u64 (val ((p.drop (3 * k)).take 5) / 2 ^ (2 * k)) 67108863 = (limbs (val p)).getD k 0 := by
            have hpp : (0 : Int) < 2 ^ (2 * k) := Int.pow_pos (by omega)
            have h1 := Int.ediv_nonneg hn0 (Int.le_of_lt hpp)
            have h2 := Int.ediv_le_self (2 ^ (2 * k)) hn0
            rw [mask_limb _ h1 (by omega)]
            exact hz
          clear hz hs0 hv hn1 nr er pr hbl hLen
          generalize val ((p.drop (3 * k)).take 5) = v at *
          generalize (limbs (val p)).getD k 0 = x at *
          go_wp2_with fail
          go_roundw
          case rel => exact ⟨k + 1, by omega, by go_num, HBL.out, HE2, HS.out, HE⟩
          case measure => simp [intOf]; omega
    · have hk5 : k = 5 := by omega
      subst hk5
      have hz : blend (limbs (val p)) (List.replicate 5 0) 5 = limbs (val p) := blend_all (F := limbs (val p)) (a := List.replicate 5 0) (by rw [HL.out]; simp)
      rw [hz] at nr
      clear hz hk0 hlt
      go_wp2_with (first
        | (refine wpList_load_Row (w := wr) rfl 63 _ rfl gn rfl 63 .u64 _ nr 5 43 Tryd.underlying63 info_num HL.out ?_)
        | (refine wpList_store_RowTo (w := wr) rfl 63 _ _ rfl gr rfl 63 .u64 _ (limbs (val p)) rfl er 5 info_num HL.out (by simp) HLW.out ?_; intro w8 q8 g8 z8))
      refine bodyPost_ret (results_Row rfl _ _ gr _ _ _ rfl q8 5 43 Tryd.underlying63 info_num HL.out) rfl ?_
      exact ⟨rfl, hbl.grown g8 hbl.size (fun r e => by cases e; omega)⟩

theorem map_get (r : List Int) {k : Nat} (hk : k < r.length) : (r.map (5 * ·)).getD k 0 = 5 * r.getD k 0 := by simp [List.getD_eq_getElem?_getD, hk]
/-- both halves, up to place k -/
def both (r : List Int) (k : Nat) : List Int := blend (r.map (5 * ·)) (List.replicate 5 0) k ++ blend r (List.replicate 5 0) k
theorem both_zero (r : List Int) : both r 0 = List.replicate 10 0 := by simp [both, blend]
theorem both_length {r : List Int} (h : r.length = 5) (k : Nat) : (both r k).length = 10 := by
  rw [both, List.length_append, blend_length (by simp [h]), blend_length (by simp [h])]
  simp
theorem both_end {r : List Int} (h : r.length = 5) : both r 5 = factors r := by
  have h1 := blend_all (F := r.map (5 * ·)) (a := List.replicate 5 0) (by simp [h])
  have h2 := blend_all (F := r) (a := List.replicate 5 0) (by simp [h])
  rw [List.length_replicate] at h1 h2
  rw [both, h1, h2, factors]
theorem both_set {r : List Int} (h : r.length = 5) {k : Nat} (hk : k < 5) : ((both r k).set k (5 * r.getD k 0)).set (5 + k) (r.getD k 0) = both r (k + 1) := by
  have h1 := blend_set (F := r.map (5 * ·)) (a := List.replicate 5 0) (by simp [h]) (i := k) (by simpa using hk)
  have h2 := blend_set (F := r) (a := List.replicate 5 0) (by simp [h]) (i := k) (by simpa using hk)
  have l1 : (blend (r.map (5 * ·)) (List.replicate 5 0) k).length = 5 := by rw [blend_length (by simp [h])]; simp
  rw [map_get r (by omega)] at h1
  rw [both, List.set_append_left _ _ (by omega), h1, List.set_append_right _ _ (by rw [blend_length (by simp [h])]; simp), blend_length (by simp [h]), List.length_replicate, Nat.add_sub_cancel_left, h2, both]
set_option maxRecDepth 100000 in
theorem doubled_any (r : List Int) (w : World) (hr : r.length = 5) (hb : ∀ x ∈ r, 0 ≤ x ∧ x < 67108864) :
    Calls Tryd.prog 45 #[.agg (arr .u64 r)] w fun e w' => e = .returned (.agg (arr .u64 (factors r))) ∧ Below w.heap.size w w' := by
  have HR := Lib.hid hr
  have HBS := Lib.hid (fun k (h : k < 5) => both_set hr h)
  have HBL := Lib.hid (fun k => both_length hr k)
  have HBE := Lib.hid (both_end hr)
  have HFL := Lib.hid (factors_length hr)
  have HFW := Lib.hid (show ∀ z ∈ factors r, (Lit.int .u64 z).wf = true from fun z hz => wf_64 (by have := factors_bound hb z hz; omega))
  have HRB := Lib.hid (fun i => getD_range (P := fun x => 0 ≤ x ∧ x < 67108864) hb (by omega) i)
  have hrw : ∀ z ∈ r, (Lit.int .u64 z).wf = true := fun z hz => wf_64 (by have := hb z hz; omega)
  clear hr hb
  go_enter Tryd.func45, Tryd.ntmps45
  go_wp2_with (first
    | (refine wpList_box_Row (w := w) rfl 63 _ rfl .u64 r rfl hrw ?_; intro w1 r1 g1 z1)
    | (refine wpList_alloc_Row (w := w1) rfl 68 rfl .u64 10 zero_ten ?_; intro w2 r2 g2 z2)
    | (refine wpList_alloc_Row (w := w2) rfl 68 rfl .u64 10 zero_ten ?_; intro w3 r3 g3 z3; have p3 := (r1.grown g2 (by simp)).grown g3 (by simp))
    | (refine wpList_load_Row (w := w3) rfl 63 _ rfl w.heap.size rfl 63 .u64 _ p3 5 43 Tryd.underlying63 info_num HR.out ?_))
  obtain ⟨gr, hgr⟩ : ∃ g, w1.heap.size = g := ⟨_, rfl⟩
  obtain ⟨gf, hgf⟩ : ∃ g, w2.heap.size = g := ⟨_, rfl⟩
  have l1 := r1.lt
  have l2 := r2.lt
  have b3 : Below w.heap.size w w3 := (((Below.refl _ w).grown g1 (Nat.le_refl _) (by simp)).grown g2 g1.size (by simp)).grown g3 (by omega) (by simp)
  have q3 := r2.grown g3 (by simp)
  rw [hgr] at l1 l2 q3
  rw [hgf] at l2 r3
  rw [hgr, hgf]
  clear hgr hgf r1 r2 g1 g2 g3 z1 z2 z3 p3
  go_loopw [7] (fun i wr => ∃ k : Nat, k ≤ 5 ∧ i = .int .i64 k ∧ Below w.heap.size w wr ∧ Row wr gf 68 .u64 (both r k) ∧ Row wr gr 68 .u64 (List.replicate 10 0)) (fun i _ => 5 - (intOf i).toNat)
  case atStart => exact ⟨0, by omega, rfl, b3, by rw [both_zero]; exact r3, q3⟩
  case round =>
    clear b3 q3 r3
    obtain ⟨k, hk, rfl, hbl, fr, er⟩ := hrel
    have hk0 : (0 : Int) ≤ (k : Int) := by omega
    by_cases hlt : k < 5
    · have hlt' : (k : Int) < 5 := by omega
      have hidx : ∀ W, (Instr.index 63 (.agg (arr .u64 r)) (.int .i64 (k : Int))).run Tryd.prog W = .ok (.int .u64 (r.getD k 0)) W := fun W =>
        run_index_arr 63 43 5 .u64 r k W Tryd.underlying63 (by kernel_rfl) (by kernel_rfl) HR.out hlt
      have hx := HRB.out k
      have hm : IntKind.u64.wrap (5 * r.getD k 0) = 5 * r.getD k 0 := IntWalk.u64_in _ (by omega)
      have HS := HBS.out k hlt
      have wx1 : (Lit.int .u64 (5 * r.getD k 0)).wf = true := wf_64 (by omega)
      have wx2 : (Lit.int .u64 (r.getD k 0)).wf = true := wf_64 (by omega)
      generalize r.getD k 0 = x at *
      go_wp2_with (first
        | (refine wpList_store_elem (w := wr) rfl 43 _ _ rfl gf k rfl 68 .u64 _ (5 * x) rfl fr (by rw [HBL.out]; omega) info_u64 wx1 ?_; intro w4 q4 g4 z4)
        | (refine wpList_store_elem (w := w4) rfl 43 _ _ rfl gf (5 + k) rfl 68 .u64 _ x rfl q4 (by rw [List.length_set, HBL.out]; omega) info_u64 wx2 ?_; intro w5 q5 g5 z5))
      go_roundw
      case rel => exact ⟨k + 1, by omega, by go_num, (hbl.grown g4 hbl.size (fun r e => by cases e; omega)).grown g5 (by have := hbl.size; have := g4.size; omega) (fun r e => by cases e; omega), by rw [← HS]; exact q5, (er.grown g4 (by intro e; injection e with e; omega)).grown g5 (by intro e; injection e with e; omega)⟩
      case measure => simp [intOf]; omega
    · have hk5 : k = 5 := by omega
      subst hk5
      rw [HBE.out] at fr
      clear hk0 hlt
      go_wp2_with (first
        | (refine wpList_load_Row (w := wr) rfl 68 _ rfl gf rfl 68 .u64 _ fr 10 43 Tryd.underlying68 info_ten HFL.out ?_)
        | (refine wpList_store_RowTo (w := wr) rfl 68 _ _ rfl gr rfl 68 .u64 _ (factors r) rfl er 10 info_ten HFL.out (by simp) HFW.out ?_; intro w8 q8 g8 z8))
      refine bodyPost_ret (results_Row rfl _ _ gr _ _ _ rfl q8 10 43 Tryd.underlying68 info_ten HFL.out) rfl ?_
      exact ⟨rfl, hbl.grown g8 hbl.size (fun r e => by cases e; omega)⟩
end Go.Proofs.YtebcejncjljmhaaDoor.Po
namespace Go.Proofs.YtebcejncjljmhaaDoor.Po
open Go.RowKit Go.Shelf Go.Proofs.YtebcejncjljmhaaDoor.Mem Go.Proofs.YtebcejncjljmhaaDoor.Sum
set_option linter.unusedVariables false
attribute [local irreducible] wpList wpListIn

theorem getD_set_same (l : List Int) {i : Nat} (h : i < l.length) (x : Int) : (l.set i x).getD i 0 = x := by simp [List.getD_eq_getElem?_getD, h]
theorem settle_wf {n : List Int} (hl : n.length = 5) (h : ∀ x ∈ n, 0 ≤ x ∧ x < 1152921504606846976) : (settle n).length = 5 ∧ ∀ z ∈ settle n, (Lit.int .u64 z).wf = true :=
  ⟨(settle_settled hl h).length, fun z hz => wf_64 (by have := (settle_settled hl h).bound z hz; omega)⟩
set_option maxRecDepth 100000 in
theorem settled_any (n : List Int) (w : World) (hn : n.length = 5) (hb : ∀ x ∈ n, 0 ≤ x ∧ x < 1152921504606846976) :
    Calls Tryd.prog 61 #[.agg (arr .u64 n)] w fun e w' => e = .returned (.agg (arr .u64 (settle n))) ∧ Below w.heap.size w w' := by
  have HN := Lib.hid hn
  have HS := Lib.hid (settle_wf hn hb)
  have HO := Lib.hid (fun k => over_bound hb k)
  have HCL := Lib.hid ((carL_length 0 n).trans hn)
  have HCG := Lib.hid (fun k (h : k < 5) => carL_get 0 n k (by omega))
  have HOS := Lib.hid (fun k => show over 0 n (k + 1) = (n.getD k 0 + over 0 n k) / 67108864 from rfl)
  have HNB := Lib.hid (fun i => getD_range (P := fun x => 0 ≤ x ∧ x < 1152921504606846976) hb (by omega) i)
  have hnw : ∀ z ∈ n, (Lit.int .u64 z).wf = true := fun z hz => wf_64 (by have := hb z hz; omega)
  clear hn hb
  go_enter Tryd.func61, Tryd.ntmps61
  go_wp2_with (first
    | (refine wpList_box_Row (w := w) rfl 63 _ rfl .u64 n rfl hnw ?_; intro w1 r1 g1 z1)
    | (refine wpList_alloc_Row (w := w1) rfl 63 rfl .u64 5 zero_num ?_; intro w2 r2 g2 z2))
  obtain ⟨gr, hgr⟩ : ∃ g, w1.heap.size = g := ⟨_, rfl⟩
  have l1 := r1.lt
  have b2 : Below w.heap.size w w2 := ((Below.refl _ w).grown g1 (Nat.le_refl _) (by simp)).grown g2 g1.size (by simp)
  have p2 := r1.grown g2 (by simp)
  rw [hgr] at l1 r2 ⊢
  clear hgr r1 g1 g2 z1 z2
  go_loopw [3, 5] (fun o i wr => ∃ k : Nat, k ≤ 5 ∧ i = .int .i64 k ∧ o = .int .u64 (over 0 n k) ∧ Below w.heap.size w wr ∧ Row wr w.heap.size 63 .u64 (blend (carL 0 n) n k) ∧ Row wr gr 63 .u64 (List.replicate 5 0)) (fun _ i _ => 5 - (intOf i).toNat)
  case atStart => exact ⟨0, by omega, rfl, rfl, b2, by rw [blend_zero]; exact p2, r2⟩
  case round =>
    clear b2 p2 r2
    obtain ⟨k, hk, rfl, rfl, hbl, nr, er⟩ := hrel
    have hk0 : (0 : Int) ≤ (k : Int) := by omega
    by_cases hlt : k < 5
    · have hlt' : (k : Int) < 5 := by omega
      have hLen : (carL 0 n).length = n.length := by rw [HCL.out, HN.out]
      have hl5 : (blend (carL 0 n) n k).length = 5 := by rw [blend_length hLen, HN.out]
      have c0 := nr.cell (i := k) (by rw [hl5]; exact hlt)
      rw [blend_get hLen (by rw [HN.out]; exact hlt)] at c0
      have HSET := Lib.hid (blend_set hLen (i := k) (by rw [HN.out]; exact hlt))
      rw [HCG.out k hlt] at HSET
      have HNX := Lib.hid (HOS.out k)
      have ho := HO.out k
      have hx := HNB.out k
      generalize n.getD k 0 = x at *
      generalize over 0 n k = o at *
      have hadd : IntKind.u64.wrap (x + o) = x + o := IntWalk.u64_in _ (by omega)
      have hand := mask_limb (x + o) (by omega) (by omega)
      have w0 : (Lit.int .u64 (x + o)).wf = true := wf_64 (by omega)
      have w1' : (Lit.int .u64 ((x + o) % 67108864)).wf = true := wf_64 (by omega)
      have HL5 := Lib.hid hl5
      clear hl5 hLen
      go_wp2_with (first
        | (refine wpList_store_elem (w := wr) rfl 43 _ _ rfl w.heap.size k rfl 63 .u64 _ (x + o) rfl nr (by rw [HL5.out]; exact hlt) info_u64 w0 ?_; intro w4 q4 g4 z4; have c4 := q4.cell (i := k) (by rw [List.length_set, HL5.out]; exact hlt); rw [getD_set_same _ (by rw [HL5.out]; exact hlt)] at c4; clear c0)
        | (refine wpList_store_elem (w := w4) rfl 43 _ _ rfl w.heap.size k rfl 63 .u64 _ ((x + o) % 67108864) rfl q4 (by rw [List.length_set, HL5.out]; exact hlt) info_u64 w1' ?_; intro w5 q5 g5 z5))
      go_roundw
      case rel => exact ⟨k + 1, by omega, by go_num, by rw [HNX.out], (hbl.grown g4 hbl.size (fun r e => by cases e; omega)).grown g5 (by have := hbl.size; have := g4.size; omega) (fun r e => by cases e; omega), by rw [← HSET.out]; rwa [List.set_set] at q5, (er.grown g4 (by intro e; injection e with e; omega)).grown g5 (by intro e; injection e with e; omega)⟩
      case measure => simp [intOf]; omega
    · have hk5 : k = 5 := by omega
      subst hk5
      have hz : blend (carL 0 n) n 5 = carL 0 n := by
        have := blend_all (F := carL 0 n) (a := n) (by rw [HCL.out, HN.out])
        rwa [HN.out] at this
      rw [hz] at nr
      have ho := HO.out 5
      have hset : settle n = (((carL 0 n).set 0 ((carL 0 n).getD 0 0 + 5 * over 0 n 5)).set 1 ((carL 0 n).getD 1 0 + ((carL 0 n).getD 0 0 + 5 * over 0 n 5) / 67108864)).set 0 (((carL 0 n).getD 0 0 + 5 * over 0 n 5) % 67108864) := rfl
      have hm0 : 0 ≤ (carL 0 n).getD 0 0 ∧ (carL 0 n).getD 0 0 < 67108864 := by rw [HCG.out 0 (by omega)]; omega
      have hm1 : 0 ≤ (carL 0 n).getD 1 0 ∧ (carL 0 n).getD 1 0 < 67108864 := by rw [HCG.out 1 (by omega)]; omega
      obtain ⟨m0, m1, m2, m3, m4, hm⟩ := five HCL.out
      rw [hm] at nr hset hm0 hm1
      simp only [List.getD_cons_zero, List.getD_cons_succ, List.set_cons_zero, List.set_cons_succ] at hset hm0 hm1
      have HSE := Lib.hid hset
      clear hset hz hm hk0 hlt
      generalize over 0 n 5 = o at *
      have c0 := nr.cell (i := 0) (by simp)
      have c1 := nr.cell (i := 1) (by simp)
      simp only [List.getD_cons_zero, List.getD_cons_succ] at c0 c1
      have hmul : IntKind.u64.wrap (5 * o) = 5 * o := IntWalk.u64_in _ (by omega)
      have hadd : IntKind.u64.wrap (m0 + 5 * o) = m0 + 5 * o := IntWalk.u64_in _ (by omega)
      have hadd2 : IntKind.u64.wrap (m1 + (m0 + 5 * o) / 67108864) = m1 + (m0 + 5 * o) / 67108864 := IntWalk.u64_in _ (by omega)
      have hand := mask_limb (m0 + 5 * o) (by omega) (by omega)
      have w0 : (Lit.int .u64 (m0 + 5 * o)).wf = true := wf_64 (by omega)
      have w1' : (Lit.int .u64 (m1 + (m0 + 5 * o) / 67108864)).wf = true := wf_64 (by omega)
      have w2' : (Lit.int .u64 ((m0 + 5 * o) % 67108864)).wf = true := wf_64 (by omega)
      go_wp2_with (first
        | (refine wpList_store_elem (w := wr) rfl 43 _ _ rfl w.heap.size 0 rfl 63 .u64 _ (m0 + 5 * o) rfl nr (by simp) info_u64 w0 ?_; intro w4 q4 g4 z4; simp only [List.set_cons_zero] at q4; have c4 := q4.cell (i := 0) (by simp); have c5 := q4.cell (i := 1) (by simp); simp only [List.getD_cons_zero, List.getD_cons_succ] at c4 c5; clear c0 c1)
        | (refine wpList_store_elem (w := w4) rfl 43 _ _ rfl w.heap.size 1 rfl 63 .u64 _ (m1 + (m0 + 5 * o) / 67108864) rfl q4 (by simp) info_u64 w1' ?_; intro w5 q5 g5 z5; simp only [List.set_cons_zero, List.set_cons_succ] at q5; have c6 := q5.cell (i := 0) (by simp); simp only [List.getD_cons_zero] at c6; clear c4 c5)
        | (refine wpList_store_elem (w := w5) rfl 43 _ _ rfl w.heap.size 0 rfl 63 .u64 _ ((m0 + 5 * o) % 67108864) rfl q5 (by simp) info_u64 w2' ?_; intro w6 q6 g6 z6; simp only [List.set_cons_zero] at q6; rw [← HSE.out] at q6; clear c6; have e6 := ((er.grown g4 (by intro e; injection e with e; omega)).grown g5 (by intro e; injection e with e; omega)).grown g6 (by intro e; injection e with e; omega))
        | (refine wpList_load_Row (w := w6) rfl 63 _ rfl w.heap.size rfl 63 .u64 _ q6 5 43 Tryd.underlying63 info_num HS.out.1 ?_)
        | (refine wpList_store_RowTo (w := w6) rfl 63 _ _ rfl gr rfl 63 .u64 _ (settle n) rfl e6 5 info_num HS.out.1 (by simp) HS.out.2 ?_; intro w8 q8 g8 z8))
      refine bodyPost_ret (results_Row rfl _ _ gr _ _ _ rfl q8 5 43 Tryd.underlying63 info_num HS.out.1) rfl ?_
      have s0 := hbl.size
      have s4 := g4.size
      have s5 := g5.size
      have s6 := g6.size
      exact ⟨rfl, (((hbl.grown g4 s0 (fun r e => by cases e; omega)).grown g5 (by omega) (fun r e => by cases e; omega)).grown g6 (by omega) (fun r e => by cases e; omega)).grown g8 (by omega) (fun r e => by cases e; omega)⟩

theorem reduce_wf {a : List Int} (h : Settled a) : (reduce a).length = 5 ∧ (∀ z ∈ reduce a, (Lit.int .u64 z).wf = true) ∧ ∀ x ∈ reduce a, 0 ≤ x ∧ x < 134217728 := by
  have ho := over_eq h
  obtain ⟨a0, a1, a2, a3, a4, rfl, h⟩ := h
  have hO : 0 ≤ over 5 [a0, a1, a2, a3, a4] 5 ∧ over 5 [a0, a1, a2, a3, a4] 5 ≤ 1 := by
    rw [ho]
    simp only [lv]
    omega
  generalize over 5 [a0, a1, a2, a3, a4] 5 = O at hO
  have e : reduce [a0, a1, a2, a3, a4] = [a0 + 5 * over 5 [a0, a1, a2, a3, a4] 5, a1, a2, a3, a4] := rfl
  have hb : ∀ x ∈ reduce [a0, a1, a2, a3, a4], 0 ≤ x ∧ x < 134217728 := by
    intro x hx
    rw [e] at hx
    simp only [List.mem_cons, List.not_mem_nil, or_false] at hx
    have hO' : 0 ≤ over 5 [a0, a1, a2, a3, a4] 5 ∧ over 5 [a0, a1, a2, a3, a4] 5 ≤ 1 := by
      rw [ho]
      simp only [lv]
      omega
    omega
  exact ⟨rfl, fun z hz => wf_64 (by have := hb z hz; omega), hb⟩
theorem over5_bound {a : List Int} (h : Settled a) : ∀ k, 0 ≤ over 5 a k ∧ over 5 a k ≤ 5
  | 0 => by simp [over]
  | k + 1 => by
    have ih := over5_bound h k
    have := getD_range (P := fun x => 0 ≤ x ∧ x < 134217728) h.bound (by omega) k
    rw [over]
    omega
set_option maxRecDepth 100000 in
theorem reduced_any (a : List Int) (w : World) (h : Settled a) :
    Calls Tryd.prog 50 #[.agg (arr .u64 a)] w fun e w' => e = .returned (.agg (arr .u64 (reduce a))) ∧ Below w.heap.size w w' := by
  have HN := Lib.hid h.length
  have HR := Lib.hid (reduce_wf h)
  have HO := Lib.hid (fun k => over5_bound h k)
  have HOS := Lib.hid (fun k => show over 5 a (k + 1) = (a.getD k 0 + over 5 a k) / 67108864 from rfl)
  have HNB := Lib.hid (fun i => getD_range (P := fun x => 0 ≤ x ∧ x < 134217728) h.bound (by omega) i)
  have HRS := Lib.hid (show a.set 0 (a.getD 0 0 + 5 * over 5 a 5) = reduce a from rfl)
  have hnw : ∀ z ∈ a, (Lit.int .u64 z).wf = true := fun z hz => wf_64 (by have := h.bound z hz; omega)
  clear h
  go_enter Tryd.func50, Tryd.ntmps50
  go_wp2_with (first
    | (refine wpList_box_Row (w := w) rfl 63 _ rfl .u64 a rfl hnw ?_; intro w1 r1 g1 z1)
    | (refine wpList_alloc_Row (w := w1) rfl 63 rfl .u64 5 zero_num ?_; intro w2 r2 g2 z2; have p2 := r1.grown g2 (by simp))
    | (refine wpList_load_Row (w := w2) rfl 63 _ rfl w.heap.size rfl 63 .u64 _ p2 5 43 Tryd.underlying63 info_num HN.out ?_))
  obtain ⟨gr, hgr⟩ : ∃ g, w1.heap.size = g := ⟨_, rfl⟩
  have l1 := r1.lt
  have b2 : Below w.heap.size w w2 := ((Below.refl _ w).grown g1 (Nat.le_refl _) (by simp)).grown g2 g1.size (by simp)
  rw [hgr] at l1 r2 ⊢
  clear hgr r1 g1 g2 z1 z2
  go_loop [3, 7] (fun o i => ∃ k : Nat, k ≤ 5 ∧ i = .int .i64 k ∧ o = .int .u64 (over 5 a k)) (fun _ i => 5 - (intOf i).toNat)
  case atStart => exact ⟨0, by omega, rfl, rfl⟩
  case round =>
    obtain ⟨k, hk, rfl, rfl⟩ := hrel
    have hk0 : (0 : Int) ≤ (k : Int) := by omega
    by_cases hlt : k < 5
    · have hlt' : (k : Int) < 5 := by omega
      have hidx : ∀ W, (Instr.index 63 (.agg (arr .u64 a)) (.int .i64 (k : Int))).run Tryd.prog W = .ok (.int .u64 (a.getD k 0)) W := fun W =>
        run_index_arr 63 43 5 .u64 a k W Tryd.underlying63 (by kernel_rfl) (by kernel_rfl) HN.out hlt
      have HNX := Lib.hid (HOS.out k)
      have ho := HO.out k
      have hx := HNB.out k
      generalize a.getD k 0 = x at *
      generalize over 5 a k = o at *
      have hadd : IntKind.u64.wrap (x + o) = x + o := IntWalk.u64_in _ (by omega)
      go_wp2_with fail
      go_round
      case rel => exact ⟨k + 1, by omega, by go_num, by rw [HNX.out]⟩
      case measure => simp [intOf]; omega
    · have hk5 : k = 5 := by omega
      subst hk5
      have ho := HO.out 5
      have hx := HNB.out 0
      have c0 := p2.cell (i := 0) (by rw [HN.out]; omega)
      have HRS' := HRS
      generalize a.getD 0 0 = x at *
      generalize over 5 a 5 = o at *
      have hmul : IntKind.u64.wrap (5 * o) = 5 * o := IntWalk.u64_in _ (by omega)
      have hadd : IntKind.u64.wrap (x + 5 * o) = x + 5 * o := IntWalk.u64_in _ (by omega)
      have w0 : (Lit.int .u64 (x + 5 * o)).wf = true := wf_64 (by omega)
      go_wp2_with (first
        | (refine wpList_store_elem (w := w2) rfl 43 _ _ rfl w.heap.size 0 rfl 63 .u64 _ (x + 5 * o) rfl p2 (by rw [HN.out]; omega) info_u64 w0 ?_; intro w4 q4 g4 z4; rw [HRS.out] at q4; have e4 := r2.grown g4 (by intro e; injection e with e; omega))
        | (refine wpList_load_Row (w := w4) rfl 63 _ rfl w.heap.size rfl 63 .u64 _ q4 5 43 Tryd.underlying63 info_num HR.out.1 ?_)
        | (refine wpList_store_RowTo (w := w4) rfl 63 _ _ rfl gr rfl 63 .u64 _ (reduce a) rfl e4 5 info_num HR.out.1 (by simp) HR.out.2.1 ?_; intro w8 q8 g8 z8))
      refine bodyPost_ret (results_Row rfl _ _ gr _ _ _ rfl q8 5 43 Tryd.underlying63 info_num HR.out.1) rfl ?_
      exact ⟨rfl, (b2.grown g4 b2.size (fun r e => by cases e; omega)).grown g8 (by have := b2.size; have := g4.size; omega) (fun r e => by cases e; omega)⟩
end Go.Proofs.YtebcejncjljmhaaDoor.Po
namespace Go.Proofs.YtebcejncjljmhaaDoor.Po
open Go.RowKit Go.Shelf Go.Proofs.YtebcejncjljmhaaDoor.Mem Go.Proofs.YtebcejncjljmhaaDoor.Sum
set_option linter.unusedVariables false
attribute [local irreducible] wpList wpListIn

set_option maxRecDepth 100000 in
theorem times_any (a r : List Int) (w : World) (ha : a.length = 5) (hr : r.length = 5) (hab : ∀ x ∈ a, 0 ≤ x ∧ x < 268435456) (hrb : ∀ x ∈ r, 0 ≤ x ∧ x < 67108864) :
    Calls Tryd.prog 47 #[.agg (arr .u64 a), .agg (arr .u64 (factors r))] w fun e w' => e = .returned (.agg (arr .u64 (settle (mulL a r)))) ∧ Below w.heap.size w w' := by
  have HA := Lib.hid ha
  have HE := Lib.hid (mix_end a r)
  have HM := Lib.hid (mulL_length a r)
  have HMB := Lib.hid (mulL_bound hab hrb)
  have HS := Lib.hid (settle_wf (mulL_length a r) (mulL_bound hab hrb))
  have HFL := Lib.hid (factors_length hr)
  have HPB := Lib.hid (fun i j => psum_bound hab (factors_bound hrb) i j)
  have HAB := Lib.hid (fun i => getD_range (P := fun x => 0 ≤ x ∧ x < 268435456) hab (by omega) i)
  have HFB := Lib.hid (fun i => getD_range (P := fun x => 0 ≤ x ∧ x < 536870912) (factors_bound hrb) (by omega) i)
  have haw : ∀ z ∈ a, (Lit.int .u64 z).wf = true := fun z hz => wf_64 (by have := hab z hz; omega)
  have hfw : ∀ z ∈ factors r, (Lit.int .u64 z).wf = true := fun z hz => wf_64 (by have := factors_bound hrb z hz; omega)
  have hmw : ∀ z ∈ mulL a r, (Lit.int .u64 z).wf = true := fun z hz => wf_64 (by have := mulL_bound hab hrb z hz; omega)
  generalize factors r = f at *
  clear ha hr hab hrb
  have HSUM := HPB
  go_enter Tryd.func47, Tryd.ntmps47
  go_wp2_with (first
    | (refine wpList_box_Row (w := w) rfl 63 _ rfl .u64 a rfl haw ?_; intro w1 r1 g1 z1)
    | (refine wpList_box_Row (w := w1) rfl 68 _ rfl .u64 f rfl hfw ?_; intro w2 r2 g2 z2)
    | (refine wpList_alloc_Row (w := w2) rfl 63 rfl .u64 5 zero_num ?_; intro w3 r3 g3 z3)
    | (refine wpList_alloc_Row (w := w3) rfl 63 rfl .u64 5 zero_num ?_; intro w4 r4 g4 z4; have p4 := ((r1.grown g2 (by simp)).grown g3 (by simp)).grown g4 (by simp))
    | (refine wpList_load_Row (w := w4) rfl 63 _ rfl w.heap.size rfl 63 .u64 _ p4 5 43 Tryd.underlying63 info_num HA.out ?_))
  obtain ⟨gf, hgf⟩ : ∃ g, w1.heap.size = g := ⟨_, rfl⟩
  obtain ⟨gr, hgr⟩ : ∃ g, w2.heap.size = g := ⟨_, rfl⟩
  obtain ⟨gp, hgp⟩ : ∃ g, w3.heap.size = g := ⟨_, rfl⟩
  have l1 := r1.lt
  have l2 := r2.lt
  have l3 := r3.lt
  have b4 : Below w.heap.size w w4 := ((((Below.refl _ w).grown g1 (Nat.le_refl _) (by simp)).grown g2 g1.size (by simp)).grown g3 (by omega) (by simp)).grown g4 (by omega) (by simp)
  have f4 := (r2.grown g3 (by simp)).grown g4 (by simp)
  have e4 := r3.grown g4 (by simp)
  rw [hgf] at l1 l2 f4
  rw [hgr] at l2 l3 e4
  rw [hgp] at l3 r4
  rw [hgf, hgr, hgp]
  clear hgf hgr hgp r1 r2 r3 g1 g2 g3 g4 z1 z2 z3 z4 p4
  go_loopw [11] (fun i wr => ∃ k : Nat, k ≤ 5 ∧ i = .int .i64 k ∧ Below w.heap.size w wr ∧ Row wr gf 68 .u64 f ∧ Row wr gp 63 .u64 (mix a f k 0) ∧ Row wr gr 63 .u64 (List.replicate 5 0)) (fun i _ => 5 - (intOf i).toNat)
  case atStart => exact ⟨0, by omega, rfl, b4, f4, by rw [mix_start]; exact r4, e4⟩
  case round =>
    clear b4 f4 e4 r4
    obtain ⟨k, hk, rfl, hbl, fr, pr, er⟩ := hrel
    have hk0 : (0 : Int) ≤ (k : Int) := by omega
    by_cases hlt : k < 5
    · have hlt' : (k : Int) < 5 := by omega
      have hsl : ∀ W, (Instr.sliceAt 68 (.pointer (some ⟨gf, 0, none⟩)) (some (.int .i64 (5 - (k : Int)))) (some (.int .i64 (10 - (k : Int)))) none).run Tryd.prog W = .ok (.slice (some ⟨gf, 5 - k, none⟩) 5 (5 + k)) W := fun W => by
        have := run_slice_arr_lh (P := Tryd.prog) 68 43 10 gf (5 - k) (10 - k) W Tryd.underlying68 (by kernel_rfl) (by omega) (by omega) (by omega)
        rw [show ((5 - k : Nat) : Int) = 5 - (k : Int) by omega, show ((10 - k : Nat) : Int) = 10 - (k : Int) by omega, show 10 - k - (5 - k) = 5 by omega, show 10 - (5 - k) = 5 + k by omega] at this
        exact this
      have hidx : ∀ W, (Instr.index 63 (.agg (arr .u64 a)) (.int .i64 (k : Int))).run Tryd.prog W = .ok (.int .u64 (a.getD k 0)) W := fun W =>
        run_index_arr 63 43 5 .u64 a k W Tryd.underlying63 (by kernel_rfl) (by kernel_rfl) HA.out hlt
      have hx := HAB.out k
      have HXE : ∃ x, Hid (a.getD k 0 = x) := ⟨_, Lib.hid rfl⟩
      obtain ⟨x, HXE⟩ := HXE
      rw [HXE.out] at hidx hx
      go_wp2_with fail
      go_loopw [21] (fun j wr => ∃ q : Nat, q ≤ 5 ∧ j = .int .i64 q ∧ Below w.heap.size w wr ∧ Row wr gf 68 .u64 f ∧ Row wr gp 63 .u64 (mix a f k q) ∧ Row wr gr 63 .u64 (List.replicate 5 0)) (fun j _ => 5 - (intOf j).toNat)
      case atStart => exact ⟨0, by omega, rfl, hbl, fr, pr, er⟩
      case round =>
        clear hbl fr pr er
        obtain ⟨q, hq, rfl, hbl, fr, pr, er⟩ := hrel
        have hq0 : (0 : Int) ≤ (q : Int) := by omega
        by_cases hlq : q < 5
        · have hlq' : (q : Int) < 5 := by omega
          have cf := fr.cell (i := 5 - k + q) (by rw [HFL.out]; omega)
          have cp := pr.cell (i := q) (by rw [mix_length]; exact hlq)
          rw [mix_get a f k hlq] at cp
          have HX := mix_set a f k hlq
          rw [HXE.out] at HX
          have HX := Lib.hid HX
          have hs := HSUM.out k q
          have hy := HFB.out (5 - k + q)
          have hk5 : (k : Int) * 144115188075855872 ≤ 4 * 144115188075855872 := by omega
          generalize f.getD (5 - k + q) 0 = y at *
          generalize psum a f k q = s at *
          have m1 : 0 ≤ x * y := Int.mul_nonneg hx.1 hy.1
          have m2 : x * y ≤ 268435456 * 536870912 := Int.mul_le_mul (by omega) (by omega) hy.1 (by omega)
          have hmul : IntKind.u64.wrap (x * y) = x * y := IntWalk.u64_in _ (by omega)
          have hadd : IntKind.u64.wrap (s + x * y) = s + x * y := IntWalk.u64_in _ (by omega)
          have w0 : (Lit.int .u64 (s + x * y)).wf = true := wf_64 (by omega)
          go_wp2_with (refine wpList_store_elem (w := wr) rfl 43 _ _ rfl gp q rfl 63 .u64 _ (s + x * y) rfl pr (by rw [mix_length]; exact hlq) info_u64 w0 ?_; intro w5 q5 g5 z5; rw [HX.out] at q5)
          go_roundw
          case rel => exact ⟨q + 1, by omega, by go_num, hbl.grown g5 hbl.size (fun r e => by cases e; omega), fr.grown g5 (by intro e; injection e with e; omega), q5, er.grown g5 (by intro e; injection e with e; omega)⟩
          case measure => simp [intOf]; omega
        · have hq5 : q = 5 := by omega
          subst hq5
          rw [mix_next] at pr
          go_wp2_with fail
          go_roundw
          case rel => exact ⟨k + 1, by omega, by go_num, hbl, fr, pr, er⟩
          case measure => simp [intOf]; omega
    · have hk5 : k = 5 := by omega
      subst hk5
      rw [HE.out] at pr
      have HSL := Lib.hid HS.out.1
      clear hk0 hlt HSUM HPB HE
      go_wp2_with (refine wpList_load_Row (w := wr) rfl 63 _ rfl gp rfl 63 .u64 _ pr 5 43 Tryd.underlying63 info_num HM.out ?_)
      refine (settled_any _ _ HM.out HMB.out).mono ?_
      rintro e w7 ⟨rfl, hb7⟩
      have e7 := er.below hb7 er.lt
      have b7 := hbl.trans (hb7.mono hbl.size)
      go_wp2_with (refine wpList_store_RowTo (w := w7) rfl 63 _ _ rfl gr rfl 63 .u64 _ (settle (mulL a r)) rfl e7 5 info_num HSL.out (by simp) HS.out.2 ?_; intro w8 q8 g8 z8)
      refine bodyPost_ret (results_Row rfl _ _ gr _ _ _ rfl q8 5 43 Tryd.underlying63 info_num HSL.out) rfl ?_
      exact ⟨rfl, b7.grown g8 b7.size (fun r e => by cases e; omega)⟩

theorem digits_set_ok (n : Int) : ∀ z ∈ digits n 16, (Lit.int .u8 z).wf = true := bs_wf (digits_bytes 16 n)
set_option maxRecDepth 100000 in
theorem lowest_any (n : List Int) (w : World) (hn : n.length = 5) (hb : ∀ x ∈ n, 0 ≤ x ∧ x < 268435456) :
    Calls Tryd.prog 49 #[.agg (arr .u64 n)] w fun e w' => e = .returned (.agg (arr .u8 (digits (lv n) 16))) ∧ Below w.heap.size w w' := by
  have HN := Lib.hid hn
  have HL := Lib.hid (digits_length 16 (lv n))
  have HW := Lib.hid (digits_set_ok (lv n))
  have HG := Lib.hid (fun i (h : i < 16) => digits_get 16 (lv n) i h)
  have HNB := Lib.hid (fun i => getD_range (P := fun x => 0 ≤ x ∧ x < 268435456) hb (by omega) i)
  have HLIMB := Lib.hid (fun i b h rest (k : Low n i b h rest) (hi : i < 5) => k.limb (by omega) (getD_range (P := fun x => 0 ≤ x ∧ x < 268435456) hb (by omega) i))
  have hnw : ∀ z ∈ n, (Lit.int .u64 z).wf = true := fun z hz => wf_64 (by have := hb z hz; omega)
  clear hn hb
  go_enter Tryd.func49, Tryd.ntmps49
  go_wp2_with (first
    | (refine wpList_box_Row (w := w) rfl 63 _ rfl .u64 n rfl hnw ?_; intro w1 r1 g1 z1)
    | (refine wpList_alloc_Row (w := w1) rfl 41 rfl .u8 16 zero_16b ?_; intro w2 r2 g2 z2))
  apply wp_scope_straight
  go_wp2_with (refine wpList_alloc_Row (w := w2) rfl 41 rfl .u8 16 zero_16b ?_; intro w3 r3 g3 z3; have p3 := (r1.grown g2 (by simp)).grown g3 (by simp))
  apply wp_label
  go_wp2_with (refine wpList_load_Row (w := w3) rfl 63 _ rfl w.heap.size rfl 63 .u64 _ p3 5 43 Tryd.underlying63 info_num HN.out ?_)
  obtain ⟨gr, hgr⟩ : ∃ g, w1.heap.size = g := ⟨_, rfl⟩
  obtain ⟨gb, hgb⟩ : ∃ g, w2.heap.size = g := ⟨_, rfl⟩
  have l1 := r1.lt
  have l2 := r2.lt
  have b3 : Below w.heap.size w w3 := (((Below.refl _ w).grown g1 (Nat.le_refl _) (by simp)).grown g2 g1.size (by simp)).grown g3 (by omega) (by simp)
  have e3 := r2.grown g3 (by simp)
  rw [hgr] at l1 l2 e3
  rw [hgb] at l2 r3
  rw [hgr, hgb]
  clear hgr hgb r1 r2 g1 g2 g3 z1 z2 z3 p3
  go_loopw [4, 5, 6, 10] (fun s h b i wr => ∃ (k hh bb : Nat) (rest : Int), k ≤ 5 ∧ bb < 16 ∧ hh < 8 ∧ i = .int .i64 k ∧ s = .int .u64 rest ∧ h = .int .i64 hh ∧ b = .int .i64 bb ∧ Hid (Low n k bb hh rest) ∧ Below w.heap.size w wr ∧
    Row wr gb 41 .u8 (blend (digits (lv n) 16) (List.replicate 16 0) bb) ∧ Row wr gr 41 .u8 (List.replicate 16 0)) (fun _ _ _ i _ => 5 - (intOf i).toNat)
  case atStart => exact ⟨0, 0, 0, 0, by omega, by omega, by omega, rfl, rfl, rfl, rfl, Lib.hid (Low.start n), b3, by rw [blend_zero]; exact r3, e3⟩
  case round =>
    clear b3 e3 r3
    obtain ⟨k, hh, bb, rest, hk, hbb, hhh, rfl, rfl, rfl, rfl, hlow, hbl, br, er⟩ := hrel
    have hk0 : (0 : Int) ≤ (k : Int) := by omega
    by_cases hlt : k < 5
    · have hlt' : (k : Int) < 5 := by omega
      have hidx : ∀ W, (Instr.index 63 (.agg (arr .u64 n)) (.int .i64 (k : Int))).run Tryd.prog W = .ok (.int .u64 (n.getD k 0)) W := fun W =>
        run_index_arr 63 43 5 .u64 n k W Tryd.underlying63 (by kernel_rfl) (by kernel_rfl) HN.out hlt
      have hx := HNB.out k
      have hlow2 := HLIMB.out k bb hh rest hlow.out hlt
      obtain ⟨_, _, lr0, lr1⟩ := hlow.out
      have HLOW2 := Lib.hid hlow2
      obtain ⟨_, _, ls0, ls1⟩ := hlow2
      generalize n.getD k 0 = x at *
      have hp1 : (0 : Int) < 2 ^ hh := Int.pow_pos (by omega)
      have hp2 : (2 : Int) ^ (hh + 26 + 3) ≤ 2 ^ 36 := by
        rcases (show hh = 0 ∨ hh = 1 ∨ hh = 2 ∨ hh = 3 ∨ hh = 4 ∨ hh = 5 ∨ hh = 6 ∨ hh = 7 by omega) with rfl | rfl | rfl | rfl | rfl | rfl | rfl | rfl <;> decide
      have hm0 : 0 ≤ x * 2 ^ hh := Int.mul_nonneg hx.1 (by omega)
      have hmul : IntKind.u64.wrap (x * 2 ^ hh) = x * 2 ^ hh := IntWalk.u64_in _ (by omega)
      have hadd : IntKind.u64.wrap (rest + x * 2 ^ hh) = rest + x * 2 ^ hh := IntWalk.u64_in _ (by omega)
      go_wp2_with fail
      go_loopw [4, 5, 6] (fun s h b wr => ∃ (hh bb : Nat) (rest : Int), bb < 16 ∧ hh ≤ 33 ∧ s = .int .u64 rest ∧ h = .int .i64 hh ∧ b = .int .i64 bb ∧ Hid (Low n (k + 1) bb hh rest) ∧ Below w.heap.size w wr ∧
        Row wr gb 41 .u8 (blend (digits (lv n) 16) (List.replicate 16 0) bb) ∧ Row wr gr 41 .u8 (List.replicate 16 0)) (fun _ h _ _ => (intOf h).toNat)
      case atStart => exact ⟨hh + 26, bb, _, hbb, by omega, rfl, by go_num, rfl, HLOW2, hbl, br, er⟩
      case round =>
        clear hbl br er HLOW2 hmul hadd hm0 hp1 hp2 lr0 lr1 ls0 ls1 hlow hhh hbb
        obtain ⟨h2, b2, r2, hbb, hhh, rfl, rfl, rfl, hlow, hbl, br, er⟩ := hrel
        by_cases hge : 8 ≤ h2
        · have hge' : (8 : Int) ≤ (h2 : Int) := by omega
          obtain ⟨_, _, lr0, lr1⟩ := hlow.out
          have hnext := hlow.out.byte hge
          rw [← HG.out b2 hbb] at hnext
          have hLen : (digits (lv n) 16).length = (List.replicate 16 (0 : Int)).length := by rw [HL.out]; simp
          have hl16 : (blend (digits (lv n) 16) (List.replicate 16 0) b2).length = 16 := by rw [blend_length hLen]; simp
          have hset := blend_set hLen (i := b2) (by simpa using hbb)
          rw [← hnext.2] at hset
          have HNEXT := Lib.hid hnext.1
          have HSET := Lib.hid hset
          have HL16 := Lib.hid hl16
          have hcv : IntKind.u8.wrap r2 = r2 % 256 := by simp [IntKind.wrap, IntKind.bits, IntKind.signed]
          have w0 : (Lit.int .u8 (r2 % 256)).wf = true := wf_byte (by omega)
          have hb0 : (0 : Int) ≤ (b2 : Int) := by omega
          have hb1 : (b2 : Int) < 16 := by omega
          clear hnext hset hl16 hLen lr1
          by_cases hend : b2 + 1 = 16
          · have hend' : (b2 : Int) + 1 = 16 := by omega
            have hall : Hid (blend (digits (lv n) 16) (List.replicate 16 0) (b2 + 1) = digits (lv n) 16) := Lib.hid (by
              rw [hend]
              exact blend_all (F := digits (lv n) 16) (a := List.replicate 16 0) (by rw [HL.out]; simp))
            go_wp2_with (first
              | (refine wpList_store_elem (w := wr) rfl 5 _ _ rfl gb b2 rfl 41 .u8 _ (r2 % 256) rfl br (by rw [HL16.out]; exact hbb) info_u8 w0 ?_; intro w5 q5 g5 z5; rw [HSET.out, hall.out] at q5; have e5 := er.grown g5 (by intro e; injection e with e; omega))
              | (refine wpList_load_Row (w := w5) rfl 41 _ rfl gb rfl 41 .u8 _ q5 16 5 Tryd.underlying41 info_16b HL.out ?_)
              | (refine wpList_store_RowTo (w := w5) rfl 41 _ _ rfl gr rfl 41 .u8 _ (digits (lv n) 16) rfl e5 16 info_16b HL.out (by simp) HW.out ?_; intro w8 q8 g8 z8))
            rw [Exit.noGoto_ret]
            refine bodyPost_ret (results_Row rfl _ _ gr _ _ _ rfl q8 16 5 Tryd.underlying41 info_16b HL.out) rfl ?_
            exact ⟨rfl, (hbl.grown g5 hbl.size (fun r e => by cases e; omega)).grown g8 (by have := hbl.size; have := g5.size; omega) (fun r e => by cases e; omega)⟩
          · have hend' : ¬ (b2 : Int) + 1 = 16 := by omega
            go_wp2_with (refine wpList_store_elem (w := wr) rfl 5 _ _ rfl gb b2 rfl 41 .u8 _ (r2 % 256) rfl br (by rw [HL16.out]; exact hbb) info_u8 w0 ?_; intro w5 q5 g5 z5; rw [HSET.out] at q5)
            go_roundw
            case rel => exact ⟨h2 - 8, b2 + 1, _, by omega, by omega, rfl, by go_num, by go_num, HNEXT, hbl.grown g5 hbl.size (fun r e => by cases e; omega), q5, er.grown g5 (by intro e; injection e with e; omega)⟩
            case measure => simp [intOf]; omega
        · have hge' : ¬ (8 : Int) ≤ (h2 : Int) := by omega
          go_wp2_with fail
          go_roundw
          case rel => exact ⟨k + 1, h2, b2, r2, by omega, hbb, by omega, by go_num, rfl, rfl, rfl, hlow, hbl, br, er⟩
          case measure => simp [intOf]; omega
    · exact absurd hlow.out.1 (by omega)
end Go.Proofs.YtebcejncjljmhaaDoor.Po
namespace Go.Proofs.YtebcejncjljmhaaDoor.Po
open Go.RowKit Go.Shelf Go.Proofs.YtebcejncjljmhaaDoor.Mem Go.Proofs.YtebcejncjljmhaaDoor.Sum Go.Proofs.YtebcejncjljmhaaDoor.Range Go.Proofs.YtebcejncjljmhaaDoor.Sha
set_option linter.unusedVariables false
attribute [local go_sem] Oper.semAt_some

theorem pieces_any (A : Option Addr) (m c : Nat) (w : World) :
    Calls Tryd.prog 46 #[.slice A m c] w fun e w' => e = .returned (.func (.func 60) #[] #[.pointer (some ⟨w.heap.size, 0, none⟩)]) ∧ w' = w.alloc (.cells #[.slice A m c] 49) := by
  go_enter Tryd.func46, Tryd.ntmps46
  go_wp2
  go_ret
  exact ⟨rfl, rfl⟩

set_option maxRecDepth 100000 in
set_option maxHeartbeats 2000000 in
theorem pieces_far (n bx B : Nat) (S : Nat → Prop) (A : Option Addr) (m c : Nat) (vs : List Value) (xss : List (List Int)) (w : World) (hbx : w.cell? ⟨bx, 0, none⟩ = some (.slice A m c)) (h : Vals w B A m vs) (ht : Texts w B vs xss)
    (hB : B ≤ w.heap.size) (hS : ∀ b, S b → B ≤ b ∧ b < w.heap.size) (hm : m ≤ 1073741824) (hn : xss.flatten.length ≤ 1099511627776) (hbs : Bs xss.flatten) :
    SeqFar Fence.wide n Tryd.prog 60 #[.pointer (some ⟨bx, 0, none⟩)] (fun bs => #[.agg (arr .u8 bs)]) (Only S) (pieces xss.flatten) w := by
  intro l J W hW hJ hY h0
  have hbx' := (hW.cell (p := ⟨bx, 0, none⟩) (World.block_lt_of_cell? w _ hbx)).trans hbx
  have hs := hW.size
  refine callsIn_of_wp Tryd.func60 rfl trivial ?_ rfl
  simp only [Tryd.ntmps60, List.size_toArray, List.length_cons, List.length_nil, Nat.reduceAdd, Nat.reduceSub, Array.replicate_succ, Array.replicate_zero, List.push_toArray, List.append_toArray, List.nil_append, List.cons_append]
  gi_wp2_with (refine wpListIn_alloc_Row rfl 65 rfl .u8 17 zero_17 ?_; intro w2 rb g2 z2; have hbx2 : w2.cell? ⟨bx, 0, none⟩ = some (.slice A m c) := (World.cell?_of_block (w := W) (w' := w2) (a := ⟨bx, 0, none⟩) (g2.block bx (World.block_lt_of_cell? _ _ hbx') (by simp))).trans hbx')
  have hw2 : Below W.heap.size W w2 := (Below.refl _ W).grown g2 (Nat.le_refl _) (by simp)
  have hJ2 := hJ [] W w2 none h0 (grown_of_below hw2 none) (fun r e => by cases e)
  have htn : Texts w2 B vs xss := (ht.below (hW.mono hB)).below (hw2.mono (by omega))
  have hvn : Vals w2 B A m vs := (h.below (hW.mono hB)).below (hw2.mono (by omega))
  have hSB : ∀ b, b < B → ¬ (S b ∨ b = W.heap.size) := fun b hb e => by
    rcases e with e | e
    · have := (hS b e).1; omega
    · omega
  have hWS : ¬ S W.heap.size := fun e => by have := (hS _ e).2; omega
  have hall : ∀ k, k < m → ∃ b off A' n' c', A = some ⟨b, off, none⟩ ∧ b < B ∧ w2.cell? ⟨b, off + k, none⟩ = some (.slice A' n' c') ∧ n' ≤ c' ∧ c' ≤ maxLen ∧ IntsN w2 .u8 (fun b => S b ∨ b = W.heap.size) A' n' (xss.getD k []) := fun k hk => by
    obtain ⟨b, off, e, hb, hc⟩ := hvn.at_ hk
    obtain ⟨A', n', c', e3, h3, h4, h5⟩ := htn.2 k (by rw [h.1]; exact hk)
    rw [e3] at hc
    exact ⟨b, off, A', n', c', e, hb, hc, h3, h4, IntsN.of h5 hSB⟩
  have HX := Lib.hid (show xss.length = m from ht.1.symm.trans h.1)
  clear h ht htn hvn hbx hbx' hbx2 hw2
  have hflat := fun k => flat_le xss k
  have hget := fun k (hk : k < xss.length) => flat_get xss k hk
  have hend : (xss.take m).flatten = xss.flatten := by rw [List.take_of_length_le (by rw [HX.out]; exact Nat.le_refl _)]
  obtain ⟨M, hM⟩ : ∃ M, xss.flatten = M := ⟨_, rfl⟩
  rw [hM] at hn hbs hY hend
  simp only [hM] at hflat hget
  have HMX := Lib.hid hM
  have HEND := Lib.hid hend
  clear hM hend
  have HFL := Lib.hid hflat
  have HGT := Lib.hid hget
  clear hflat hget
  have HN := Lib.hid hn
  clear hn
  have hm' : (m : Int) ≤ 1073741824 := by omega
  gi_loopw [4, 10] (fun f i wr => ∃ k p : Nat, k ≤ m ∧ i = .int .i64 k ∧ Hid (p = (xss.take k).flatten.length) ∧ f = .int .i64 ((p % 16 : Nat) : Int) ∧ J ((pieces M).take (p / 16)) wr ∧ Only (fun b => S b ∨ b = W.heap.size) w2 wr ∧
    Row wr W.heap.size 65 .u8 (cur M p)) (fun _ i _ => m - (intOf i).toNat)
  case atStart => exact ⟨0, 0, by omega, rfl, Lib.hid (by simp), rfl, by simpa using hJ2, Only.refl _ _, by rw [cur_start _ rfl]; exact rb⟩
  case round =>
    clear hJ2 rb
    obtain ⟨k, p, hk, rfl, hp, rfl, hJp, hon, hcur⟩ := hrel
    by_cases hlt : k < m
    · obtain ⟨b1, off1, A1, n1, c1, rfl, hb1, hc1, hn1, hm1, hi1⟩ := hall k hlt
      have hc1' := hon.cell (p := ⟨b1, off1 + k, none⟩) (hSB b1 hb1) hc1
      have hlt' : (k : Int) < (m : Int) := by omega
      have hk0 : (0 : Int) ≤ (k : Int) := by omega
      have hkl : k < xss.length := by rw [HX.out]; exact hlt
      have hq : p + n1 = (xss.take (k + 1)).flatten.length := by rw [flat_take xss hkl, hi1.1, ← hp.out]
      have hqm := HFL.out (k + 1)
      have htx := HGT.out k hkl
      rw [hi1.1, ← hp.out] at htx
      rw [htx] at hi1
      obtain ⟨q, hq2⟩ : ∃ q, (xss.take (k + 1)).flatten.length = q := ⟨_, rfl⟩
      have HQ2 := Lib.hid hq2.symm
      rw [hq2] at hq hqm
      clear hq2
      have HQ := Lib.hid hq
      clear hq htx hp hc1 hall
      gi_wp2_with fail
      gi_loopw [4, 6] (fun f a wr => ∃ p n' : Nat, ∃ A' c', f = .int .i64 ((p % 16 : Nat) : Int) ∧ a = .slice A' n' c' ∧ n' ≤ c' ∧ c' ≤ maxLen ∧ Hid (p + n' = q) ∧ IntsN w2 .u8 (fun b => S b ∨ b = W.heap.size) A' n' ((M.drop p).take n') ∧
        J ((pieces M).take (p / 16)) wr ∧ Only (fun b => S b ∨ b = W.heap.size) w2 wr ∧ Row wr W.heap.size 65 .u8 (cur M p)) (fun _ a _ => lenV a)
      case atStart => exact ⟨p, n1, A1, c1, rfl, rfl, hn1, hm1, HQ, hi1, hJp, hon, hcur⟩
      case round =>
        clear hi1 hJp hon hcur hn1 hm1 HQ
        obtain ⟨p, n', A', c', rfl, rfl, hn1, hm1, hq, hi1, hJp, hon, hcur⟩ := hrel
        by_cases hpos : 0 < n'
        · obtain ⟨b, off, rfl, hbN, hcc⟩ := hi1.2.2 hpos
          have hcw : ∀ i, i < n' → wr.cell? ⟨b, off + i, none⟩ = some (.int .u8 (((M.drop p).take n').getD i 0)) := fun i hi => hon.cell (p := ⟨b, off + i, none⟩) hbN (hcc i hi)
          obtain ⟨mm, hmm⟩ : ∃ mm, min n' (16 - p % 16) = mm := ⟨_, rfl⟩
          have hstep := cur_step (m := M) (p := p) (n := n') hmm.symm (by have := hq.out; omega)
          have hcl : (cur M p).length = 17 := cur_length (by have := hq.out; omega)
          have HXW := Lib.hid hi1.2.1
          have HCL := Lib.hid hcl
          have HXL := Lib.hid hi1.1
          have hf16 : p % 16 < 16 := Nat.mod_lt _ (by omega)
          have hmm1 : 0 < mm := by omega
          have hmm2 : mm ≤ n' := by omega
          have hmm3 : mm ≤ 16 - p % 16 := by omega
          have HMM := Lib.hid hmm
          clear hcl hmm hcc
          obtain ⟨f, hf⟩ : ∃ f, p % 16 = f := ⟨_, rfl⟩
          have HF := Lib.hid hf
          rw [hf] at hstep HMM hf16 hmm3 ⊢
          clear hf
          have HST := Lib.hid hstep
          clear hstep
          have hfi : (f : Int) < 16 := by omega
          have hmi : (mm : Int) ≤ 16 - (f : Int) := by omega
          have hmi0 : (0 : Int) < (mm : Int) := by omega
          have hfi0 : (0 : Int) ≤ (f : Int) := by omega
          have hmi2 : (mm : Int) ≤ (n' : Int) := by omega
          have hsl : ∀ W', (Instr.sliceAt 65 (.pointer (some ⟨W.heap.size, 0, none⟩)) (some (.int .i64 (f : Int))) (some (.int .i64 16)) none).run Tryd.prog W' = .ok (.slice (some ⟨W.heap.size, f, none⟩) (16 - f) (17 - f)) W' := fun W' => run_slice_arr_lh (P := Tryd.prog) 65 5 17 W.heap.size f 16 W' Tryd.underlying65 (by kernel_rfl) (by omega) (by omega) (by omega)
          have hcutN := hi1.cut hmm2 hn1
          rw [List.drop_take, List.drop_drop] at hcutN
          have HQ' := Lib.hid (show p + mm + (n' - mm) = q by have := hq.out; omega)
          have farN : ∀ {X Y : World} {row : Option Nat} {s}, J s X → X.grownBy Y row → (∀ r, row = some r → W.heap.size ≤ r) → J s Y := fun h1 h2 h3 => hJ _ _ _ _ h1 h2 h3
          by_cases hz : f + mm = 16
          · have hzi : (f : Int) + (mm : Int) = 16 := by omega
            have HZ0 := Lib.hid hz
            rw [if_pos hz] at HST
            have hfull := pieceAt_full (m := M) (k := p / 16) (by have := hq.out; have := HF.out; omega)
            have HFULL := Lib.hid hfull
            have hkc : p / 16 < count M := by unfold count; have := hq.out; have := HF.out; omega
            have HTK := Lib.hid (pieces_take M hkc)
            have HPL := Lib.hid (pieceAt_length M (p / 16))
            have HZ := Lib.hid (show (p + mm) % 16 = 0 by have := HF.out; omega)
            have HD := Lib.hid (show (p + mm) / 16 = p / 16 + 1 by have := HF.out; omega)
            have HCS := Lib.hid (cur_start M HZ.out)
            have HCH := Lib.hid (show (chunk M (p / 16) ++ [0]).length = 17 by rw [List.length_append, chunk_length]; have := hq.out; have := HF.out; simp; omega)
            clear hfull hz
            by_cases hcm : c' = mm
            · rw [if_pos hcm] at hcutN
              subst hcm
              have HQ0 := Lib.hid (show p + c' + 0 = q by have := hq.out; omega)
              have hz0 : IntsN w2 .u8 (fun b => S b ∨ b = W.heap.size) (some ⟨b, off, none⟩) 0 ((M.drop (p + c')).take 0) := ⟨by simp, by simp, fun h => absurd h (by omega)⟩
              gi_wp2_with (first
                | (refine wpListIn_copy_RowTo rfl _ _ 24 24 rfl 5 Tryd.underlying24 info_u8 W.heap.size f (16 - f) (17 - f) (some ⟨b, off, none⟩) n' c' rfl rfl 65 .u8 _ _ hcur (fun _ => ⟨b, off, rfl, hcw⟩) HXL.out HXW.out c' HMM.out.symm hmm1 (by rw [HCL.out]; omega) ?_; intro w3 r3 g3 z3; rw [HST.out] at r3)
                | (refine wpListIn_store_elem (w := w3) rfl 5 _ _ rfl W.heap.size 16 rfl 65 .u8 _ 1 rfl r3 (by rw [HCH.out]; omega) info_u8 rfl ?_; intro w4 r4 g4 z4; rw [HFULL.out] at r4; have J4 := farN (farN hJp g3 (fun r e => by cases e; exact Nat.le_refl _)) g4 (fun r e => by cases e; exact Nat.le_refl _); obtain ⟨fn, tmps, assign, body, hy, hR⟩ := hY _ (pieceAt M (p / 16)) _ J4 (by rw [HTK.out]; exact List.take_prefix _ _))
                | (refine wpListIn_load_Row (w := w4) rfl 65 _ rfl W.heap.size rfl 65 .u8 _ r4 17 5 Tryd.underlying65 info_17 HPL.out ?_))
              have o4 := (hon.trans (Only.of_grown g3 (fun r e => by cases e; exact .inr rfl))).trans (Only.of_grown g4 (fun r e => by cases e; exact .inr rfl))
              refine ⟨fun h => (by cases h), ?_⟩
              refine hR.mono ?_
              rintro e W4 ⟨rfl, J5, k5⟩
              have o5 := o4.trans (k5.mono (fun i e => .inl e))
              have r5 := k5.row hWS r4
              rw [HTK.out] at J5
              clear o4 J4 hR hy r3 g3 z3 r4 g4 z4 k5
              gi_wp2_with (first
                | (refine wpListIn_build_Row rfl 65 _ rfl .u8 (List.replicate 17 0) (by kernel_rfl) ?_)
                | (refine wpListIn_store_RowTo (w := W4) rfl 65 _ _ rfl W.heap.size rfl 65 .u8 _ (List.replicate 17 0) rfl r5 17 info_17 (by simp) HPL.out (zeros_wf .u8 17) ?_; intro w6 r6 g6 z6))
              have J6 := farN J5 g6 (fun r e => by cases e; exact Nat.le_refl _)
              have o6 := o5.trans (Only.of_grown g6 (fun r e => by cases e; exact .inr rfl))
              go_roundw
              case rel => exact ⟨p + c', 0, _, _, by rw [HZ.out]; rfl, rfl, by omega, by omega, HQ0, hz0, by rw [HD.out]; exact J6, o6, by rw [HCS.out]; exact r6⟩
              case measure => simp [lenV]; omega
            · rw [if_neg hcm] at hcutN
              gi_wp2_with (first
                | (refine wpListIn_copy_RowTo rfl _ _ 24 24 rfl 5 Tryd.underlying24 info_u8 W.heap.size f (16 - f) (17 - f) (some ⟨b, off, none⟩) n' c' rfl rfl 65 .u8 _ _ hcur (fun _ => ⟨b, off, rfl, hcw⟩) HXL.out HXW.out mm HMM.out.symm hmm1 (by rw [HCL.out]; omega) ?_; intro w3 r3 g3 z3; rw [HST.out] at r3)
                | (refine wpListIn_store_elem (w := w3) rfl 5 _ _ rfl W.heap.size 16 rfl 65 .u8 _ 1 rfl r3 (by rw [HCH.out]; omega) info_u8 rfl ?_; intro w4 r4 g4 z4; rw [HFULL.out] at r4; have J4 := farN (farN hJp g3 (fun r e => by cases e; exact Nat.le_refl _)) g4 (fun r e => by cases e; exact Nat.le_refl _); obtain ⟨fn, tmps, assign, body, hy, hR⟩ := hY _ (pieceAt M (p / 16)) _ J4 (by rw [HTK.out]; exact List.take_prefix _ _))
                | (refine wpListIn_load_Row (w := w4) rfl 65 _ rfl W.heap.size rfl 65 .u8 _ r4 17 5 Tryd.underlying65 info_17 HPL.out ?_))
              have o4 := (hon.trans (Only.of_grown g3 (fun r e => by cases e; exact .inr rfl))).trans (Only.of_grown g4 (fun r e => by cases e; exact .inr rfl))
              refine ⟨fun h => (by cases h), ?_⟩
              refine hR.mono ?_
              rintro e W4 ⟨rfl, J5, k5⟩
              have o5 := o4.trans (k5.mono (fun i e => .inl e))
              have r5 := k5.row hWS r4
              rw [HTK.out] at J5
              clear o4 J4 hR hy r3 g3 z3 r4 g4 z4 k5
              gi_wp2_with (first
                | (refine wpListIn_build_Row rfl 65 _ rfl .u8 (List.replicate 17 0) (by kernel_rfl) ?_)
                | (refine wpListIn_store_RowTo (w := W4) rfl 65 _ _ rfl W.heap.size rfl 65 .u8 _ (List.replicate 17 0) rfl r5 17 info_17 (by simp) HPL.out (zeros_wf .u8 17) ?_; intro w6 r6 g6 z6))
              have J6 := farN J5 g6 (fun r e => by cases e; exact Nat.le_refl _)
              have o6 := o5.trans (Only.of_grown g6 (fun r e => by cases e; exact .inr rfl))
              go_roundw
              case rel => exact ⟨p + mm, n' - mm, _, _, by rw [HZ.out]; rfl, rfl, by omega, by omega, HQ', hcutN, by rw [HD.out]; exact J6, o6, by rw [HCS.out]; exact r6⟩
              case measure => simp [lenV]; omega
          · have hzi : ¬ (f : Int) + (mm : Int) = 16 := by omega
            rw [if_neg hz] at HST
            have HE := Lib.hid (show (f : Int) + (mm : Int) = (((p + mm) % 16 : Nat) : Int) by have := HF.out; omega)
            have HD := Lib.hid (show (p + mm) / 16 = p / 16 by have := HF.out; omega)
            clear hz
            by_cases hcm : c' = mm
            · rw [if_pos hcm] at hcutN
              subst hcm
              have HQ0 := Lib.hid (show p + c' + 0 = q by have := hq.out; omega)
              have hz0 : IntsN w2 .u8 (fun b => S b ∨ b = W.heap.size) (some ⟨b, off, none⟩) 0 ((M.drop (p + c')).take 0) := ⟨by simp, by simp, fun h => absurd h (by omega)⟩
              gi_wp2_with (refine wpListIn_copy_RowTo rfl _ _ 24 24 rfl 5 Tryd.underlying24 info_u8 W.heap.size f (16 - f) (17 - f) (some ⟨b, off, none⟩) n' c' rfl rfl 65 .u8 _ _ hcur (fun _ => ⟨b, off, rfl, hcw⟩) HXL.out HXW.out c' HMM.out.symm hmm1 (by rw [HCL.out]; omega) ?_; intro w3 r3 g3 z3; rw [HST.out] at r3)
              have J4 := farN hJp g3 (fun r e => by cases e; exact Nat.le_refl _)
              have o4 := hon.trans (Only.of_grown g3 (fun r e => by cases e; exact .inr rfl))
              go_roundw
              case rel => exact ⟨p + c', 0, _, _, by rw [HE.out], rfl, by omega, by omega, HQ0, hz0, by rw [HD.out]; exact J4, o4, r3⟩
              case measure => simp [lenV]; omega
            · rw [if_neg hcm] at hcutN
              gi_wp2_with (refine wpListIn_copy_RowTo rfl _ _ 24 24 rfl 5 Tryd.underlying24 info_u8 W.heap.size f (16 - f) (17 - f) (some ⟨b, off, none⟩) n' c' rfl rfl 65 .u8 _ _ hcur (fun _ => ⟨b, off, rfl, hcw⟩) HXL.out HXW.out mm HMM.out.symm hmm1 (by rw [HCL.out]; omega) ?_; intro w3 r3 g3 z3; rw [HST.out] at r3)
              have J4 := farN hJp g3 (fun r e => by cases e; exact Nat.le_refl _)
              have o4 := hon.trans (Only.of_grown g3 (fun r e => by cases e; exact .inr rfl))
              go_roundw
              case rel => exact ⟨p + mm, n' - mm, _, _, by rw [HE.out], rfl, by omega, by omega, HQ', hcutN, by rw [HD.out]; exact J4, o4, r3⟩
              case measure => simp [lenV]; omega
        · have hn0 : n' = 0 := by omega
          subst hn0
          have hpq : Hid (p = q) := Lib.hid (by have := hq.out; omega)
          gi_wp2_with fail
          go_roundw
          case rel => exact ⟨k + 1, q, by omega, by go_num, HQ2, by rw [← hpq.out], by rw [← hpq.out]; exact hJp, hon, by rw [← hpq.out]; exact hcur⟩
          case measure => simp [intOf]; omega
    · have hkm : k = m := by omega
      subst hkm
      have hpe : p = M.length := by rw [hp.out, HEND.out]
      have HPE := Lib.hid hpe
      clear hpe hp hall
      by_cases hz : p % 16 = 0
      · have hall2 : (pieces M).take (p / 16) = pieces M := List.take_of_length_le (by rw [pieces_length]; unfold count; have := HPE.out; omega)
        have HA := Lib.hid hall2
        clear hall2
        gi_wp2_with fail
        go_end0
        exact ⟨⟨_, rfl⟩, by rw [HMX.out, ← HA.out]; exact hJp⟩
      · obtain ⟨f, hf⟩ : ∃ f, p % 16 = f := ⟨_, rfl⟩
        have hkc : p / 16 < count M := by unfold count; have := HPE.out; omega
        have hTK := pieces_take M hkc
        rw [List.take_of_length_le (i := p / 16 + 1) (by rw [pieces_length]; unfold count; have := HPE.out; omega)] at hTK
        have HTK := Lib.hid hTK
        have hlast := cur_last (m := M) (by rw [← HPE.out]; exact hz)
        rw [← HPE.out, hf] at hlast
        have HLAST := Lib.hid hlast
        have HCL := Lib.hid (show (cur M p).length = 17 from cur_length (by have := HPE.out; omega))
        have HPL := Lib.hid (pieceAt_length M (p / 16))
        have hf16 : f < 16 := by omega
        have hf0 : (0 : Int) < (f : Int) := by omega
        have hf17 : (f : Int) < 17 := by omega
        rw [hf]
        clear hf hz hlast hTK hkc
        gi_wp2_with (first
          | (refine wpListIn_store_elem (w := wr) rfl 5 _ _ rfl W.heap.size f rfl 65 .u8 _ 1 rfl hcur (by rw [HCL.out]; omega) info_u8 rfl ?_; intro w4 r4 g4 z4; rw [HLAST.out] at r4; have J4 := hJ _ _ _ _ hJp g4 (fun r e => by cases e; exact Nat.le_refl _); obtain ⟨fn, tmps, assign, body, hy, hR⟩ := hY _ (pieceAt M (p / 16)) _ J4 (by rw [HTK.out]; exact List.prefix_refl _))
          | (refine wpListIn_load_Row (w := w4) rfl 65 _ rfl W.heap.size rfl 65 .u8 _ r4 17 5 Tryd.underlying65 info_17 HPL.out ?_))
        refine ⟨fun h => (by cases h), ?_⟩
        refine hR.mono ?_
        rintro e W4 ⟨rfl, J5, k5⟩
        rw [HTK.out] at J5
        gi_wp2_with fail
        go_end0
        exact ⟨⟨_, rfl⟩, by rw [HMX.out]; exact J5⟩
end Go.Proofs.YtebcejncjljmhaaDoor.Po
namespace Go.Proofs.YtebcejncjljmhaaDoor.Po
open Go.RowKit Go.Shelf Go.Proofs.YtebcejncjljmhaaDoor.Mem Go.Proofs.YtebcejncjljmhaaDoor.Sum Go.Proofs.YtebcejncjljmhaaDoor.Range Go.Proofs.YtebcejncjljmhaaDoor.Sha
set_option linter.unusedVariables false
attribute [local go_sem] Oper.semAt_some
attribute [local irreducible] wpList wpListIn

/-- the limbs of half a key -/
def halfL (half : List Int) : List Int := limbs (val (half ++ [0]))
theorem val_half (half : List Int) : val (half ++ [0]) = val half := by rw [val_append]; simp [val]
theorem half_lv {half : List Int} (h : Bs half) (hl : half.length = 16) : lv (halfL half) = val half := by
  have h1 := val_lt h
  have h0 := val_nonneg (xs := half) fun z hz => (h z hz).1
  rw [hl] at h1
  rw [halfL, val_half]
  exact lv_limbs h0 (by omega)
theorem half_bound (half : List Int) : ∀ x ∈ halfL half, 0 ≤ x ∧ x < 67108864 := limbs_bound _
theorem half_length (half : List Int) : (halfL half).length = 5 := rfl
theorem half_bytes {half : List Int} (h : Bs half) : Bs (half ++ [0]) := fun z hz => by
  rcases List.mem_append.1 hz with h1 | h1
  · exact h z h1
  · rw [List.mem_singleton.1 h1]; omega

/-- what stands between two rounds -/
def Inv (w : World) (ga gf gs gr : Nat) (key M : List Int) (pre : List (List Int)) (W : World) : Prop :=
  (∃ a, Row W ga 63 .u64 a ∧ Settled a ∧ lv a % modulus = acc (val (clamp key)) M pre.length) ∧ Row W gf 68 .u64 (factors (halfL (clamp key))) ∧ Row W gs 63 .u64 (halfL ((key.drop 16).take 16)) ∧
    Row W gr 41 .u8 (List.replicate 16 0) ∧ Below w.heap.size w W
theorem Inv.far (w : World) (ga gf gs gr : Nat) (key M : List Int) {B : Nat} (h1 : ga < B) (h2 : gf < B) (h3 : gs < B) (h4 : gr < B) (h5 : w.heap.size ≤ B) : Far B (Inv w ga gf gs gr key M) := by
  intro pre W W' row h hgr hr
  have hne : ∀ i, i < B → some i ≠ row := fun i hi e => by have := hr i e.symm; omega
  obtain ⟨⟨a, p1, p2, p3⟩, p4, p5, p6, p7⟩ := h
  exact ⟨⟨a, p1.grown hgr (hne _ h1), p2, p3⟩, p4.grown hgr (hne _ h2), p5.grown hgr (hne _ h3), p6.grown hgr (hne _ h4), p7.grown hgr p7.size (fun r e => by have := hr r e; omega)⟩
theorem read_half (half : List Int) (w : World) (hl : half.length = 16) (hb : Bs half) : Calls Tryd.prog 42 #[.agg (arr .u8 (half ++ [0]))] w fun e w' => e = .returned (.agg (arr .u64 (halfL half))) ∧ Below w.heap.size w w' :=
  read_any _ _ (by simp [hl]) (half_bytes hb)
theorem settled_zero : Settled (List.replicate 5 0) := ⟨0, 0, 0, 0, 0, rfl, by omega, by omega, by omega, by omega, by omega⟩

theorem pieces_mem {m x : List Int} (h : Bs m) (hx : x ∈ pieces m) : x.length = 17 ∧ Bs x := by
  obtain ⟨k, _, rfl⟩ := List.mem_map.1 hx
  exact ⟨pieceAt_length m k, pieceAt_bytes h k⟩
theorem pieces_next {m x : List Int} {pre : List (List Int)} (h : Bs m) (hp : (pre ++ [x]) <+: pieces m) : val x = val (pieceAt m pre.length) ∧ 0 ≤ val x ∧ val x < 2 ^ 130 := by
  have hl := hp.length_le
  rw [List.length_append, List.length_singleton] at hl
  have e : (pre ++ [x])[pre.length]? = (pieces m)[pre.length]? := by
    obtain ⟨t, ht⟩ := hp
    rw [← ht]
    exact (List.getElem?_append_left (by simp)).symm
  rw [List.getElem?_append_right (Nat.le_refl _), Nat.sub_self] at e
  have hx : x = pieceAt m pre.length := by
    rw [pieces_length] at hl
    simpa [pieces, show pre.length < count m by omega] using e
  have := val_chunk_lt h pre.length
  rw [← val_pieceAt] at this
  rw [hx]
  exact ⟨rfl, this.1, by omega⟩
theorem mod_step (a v r : Int) : (a + v) * r % modulus = (a % modulus + v) * r % modulus := by
  have h := Int.mul_ediv_add_emod a modulus
  generalize a / modulus = q at h
  generalize a % modulus = s at h ⊢
  have e : (a + v) * r = (s + v) * r + modulus * (q * r) := by rw [← h]; grind
  rw [e, Int.add_mul_emod_self_left]

set_option maxRecDepth 100000 in
set_option maxHeartbeats 4000000 in
theorem tag_any (key : List Int) (B : Nat) (A : Option Addr) (m c : Nat) (vs : List Value) (xss : List (List Int)) (w : World) (hk : key.length = 32) (hkb : Bs key) (h : Vals w B A m vs) (ht : Texts w B vs xss) (hB : B ≤ w.heap.size) (hm : m ≤ 1073741824) (hn : xss.flatten.length ≤ 1099511627776)
    (hb : Bs xss.flatten) (hT : TabK w 0 .u8 keptI) :
    Calls Tryd.prog 30 #[.agg (arr .u8 key), .slice A m c] w fun e w' => e = .returned (.agg (arr .u8 (poly key xss.flatten))) ∧ Below w.heap.size w w' := by
  refine (callsIn_wide (n := 3)).1 ?_
  refine callsIn_of_wp_marks Tryd.func30 rfl trivial ?_ rfl
  simp only [Tryd.ntmps30, List.size_toArray, List.length_cons, List.length_nil, Nat.reduceAdd, Nat.reduceSub, Array.replicate_succ, Array.replicate_zero, List.push_toArray, List.append_toArray, List.nil_append, List.cons_append]
  have HK := Lib.hid hk
  have HC := Lib.hid (clamp_bytes hkb)
  have HD := Lib.hid (show Bs ((key.drop 16).take 16) from fun z hz => hkb z (List.mem_of_mem_drop (List.mem_of_mem_take hz)))
  have HDL := Lib.hid (show ((key.drop 16).take 16).length = 16 by simp [hk])
  have hrw : ∀ half, ∀ z ∈ halfL half, (Lit.int .u64 z).wf = true := fun half z hz => wf_64 (by have := half_bound half z hz; omega)
  have hfw : ∀ z ∈ factors (halfL (clamp key)), (Lit.int .u64 z).wf = true := fun z hz => wf_64 (by have := factors_bound (half_bound _) z hz; omega)
  have HFL := Lib.hid (factors_length (half_length (clamp key)))
  clear hk
  gi_wp2_with (first
    | (refine wpListIn_box_Row rfl 22 _ rfl .u8 key rfl (bs_wf hkb) ?_; intro w1 r1 g1 z1)
    | (refine wpListIn_alloc_Row (w := w1) rfl 41 rfl .u8 16 zero_16b ?_; intro w2 r2 g2 z2; have k2 := r1.grown g2 (by simp))
    | (refine wpListIn_load_Row (w := w2) rfl 22 _ rfl w.heap.size rfl 22 .u8 _ k2 32 5 Tryd.underlying22 (by kernel_rfl) HK.out ?_))
  obtain ⟨gr, hgr⟩ : ∃ g, w1.heap.size = g := ⟨_, rfl⟩
  have l1 := r1.lt
  have b2 : Below w.heap.size w w2 := ((Below.refl _ w).grown g1 (Nat.le_refl _) (by simp)).grown g2 g1.size (by simp)
  rw [hgr] at l1 r2 ⊢
  clear hgr r1 g1 g2 z1 z2 w1
  refine ⟨trivial, ?_⟩
  refine (callsIn_wide.2 (clamp_any key w2 HK.out hkb (hT.below b2 hT.lt))).mono ?_
  rintro e w3 ⟨rfl, hb3⟩
  gi_wp2_with fail
  refine ⟨trivial, ?_⟩
  refine (callsIn_wide.2 (without_any (clamp key) w3 (clamp_length key) HC.out)).mono ?_
  rintro e w4 ⟨rfl, hb4⟩
  gi_wp2_with fail
  refine ⟨trivial, ?_⟩
  refine (callsIn_wide.2 (read_half (clamp key) w4 (clamp_length key) HC.out)).mono ?_
  rintro e w5 ⟨rfl, hb5⟩
  have hb25 : Below w2.heap.size w2 w5 := (hb3.trans (hb4.mono hb3.size)).trans (hb5.mono (Nat.le_trans hb3.size hb4.size))
  have k5 := k2.below hb25 k2.lt
  have e5 := r2.below hb25 r2.lt
  have b5 := b2.trans (hb25.mono b2.size)
  have l5 := e5.lt
  clear k2 r2 b2 hb3 hb4 hb5 hb25 w2 w3 w4
  gi_wp2_with (first
    | (refine wpListIn_alloc_Row (w := w5) rfl 63 rfl .u64 5 zero_num ?_; intro w6 r6 g6 z6)
    | (refine wpListIn_store_RowTo (w := w6) rfl 63 _ _ rfl w5.heap.size rfl 63 .u64 _ (halfL (clamp key)) rfl r6 5 info_num rfl (by simp) (hrw _) ?_; intro w7 r7 g7 z7; have k7 := (k5.grown g6 (by simp)).grown g7 (by intro e; injection e with e; have := k5.lt; omega); have hsl : ∀ W, (Instr.sliceAt 22 (.pointer (some ⟨w.heap.size, 0, none⟩)) (some (.int .i64 16)) none none).run Tryd.prog W = .ok (.slice (some ⟨w.heap.size, 16, none⟩) 16 16) W := fun W => run_slice_arr_l (P := Tryd.prog) 22 5 32 w.heap.size 16 W Tryd.underlying22 (by kernel_rfl) (by omega))
    | (refine wpListIn_arrayAt rfl 41 _ rfl _ 16 16 16 5 rfl Tryd.underlying41 (by omega) ?_)
    | (refine wpListIn_load_midRow (w := w7) rfl 41 _ rfl w.heap.size 16 rfl 22 .u8 key k7 16 5 Tryd.underlying41 info_16b (by rw [HK.out]; omega) ?_))
  obtain ⟨gq, hgq⟩ : ∃ g, w5.heap.size = g := ⟨_, rfl⟩
  rw [hgq] at l5 r7 ⊢
  have b7 : Below w.heap.size w w7 := (b5.grown g6 b5.size (by simp)).grown g7 (by have := b5.size; have := g6.size; omega) (fun r e => by have := b5.size; cases e; omega)
  have e7 := (e5.grown g6 (by simp)).grown g7 (by intro e; injection e with e; omega)
  clear hgq k5 e5 b5 r6 g6 g7 z6 z7 w6 hsl
  refine ⟨trivial, ?_⟩
  refine (callsIn_wide.2 (without_any _ w7 HDL.out HD.out)).mono ?_
  rintro e w8 ⟨rfl, hb8⟩
  gi_wp2_with fail
  refine ⟨trivial, ?_⟩
  refine (callsIn_wide.2 (read_half _ w8 HDL.out HD.out)).mono ?_
  rintro e w9 ⟨rfl, hb9⟩
  have hb79 : Below w7.heap.size w7 w9 := hb8.trans (hb9.mono hb8.size)
  have q9 := r7.below hb79 r7.lt
  have e9 := e7.below hb79 e7.lt
  have b9 := b7.trans (hb79.mono b7.size)
  have l9 := q9.lt
  clear r7 e7 b7 hb8 hb9 hb79 k7 w7 w8
  gi_wp2_with (first
    | (refine wpListIn_alloc_Row (w := w9) rfl 63 rfl .u64 5 zero_num ?_; intro w6 r6 g6 z6)
    | (refine wpListIn_store_RowTo (w := w6) rfl 63 _ _ rfl w9.heap.size rfl 63 .u64 _ (halfL ((key.drop 16).take 16)) rfl r6 5 info_num rfl (by simp) (hrw _) ?_; intro w7 r7 g7 z7; have q7 := (q9.grown g6 (by simp)).grown g7 (by intro e; injection e with e; omega))
    | (refine wpListIn_load_Row (w := w7) rfl 63 _ rfl gq rfl 63 .u64 _ q7 5 43 Tryd.underlying63 info_num rfl ?_))
  obtain ⟨gs, hgs⟩ : ∃ g, w9.heap.size = g := ⟨_, rfl⟩
  rw [hgs] at l9 r7 ⊢
  have b7 : Below w.heap.size w w7 := (b9.grown g6 b9.size (by simp)).grown g7 (by have := b9.size; have := g6.size; omega) (fun r e => by have := b9.size; cases e; omega)
  have e7 := (e9.grown g6 (by simp)).grown g7 (by intro e; injection e with e; omega)
  clear hgs q9 e9 b9 r6 g6 g7 z6 z7 w6
  refine ⟨trivial, ?_⟩
  refine (callsIn_wide.2 (doubled_any (halfL (clamp key)) w7 rfl (half_bound _))).mono ?_
  rintro e w10 ⟨rfl, hb10⟩
  have s10 := r7.below hb10 r7.lt
  have e10 := e7.below hb10 e7.lt
  have b10 := b7.trans (hb10.mono b7.size)
  have l10 := s10.lt
  clear r7 e7 b7 hb10 q7 w7
  gi_wp2_with (first
    | (refine wpListIn_alloc_Row (w := w10) rfl 68 rfl .u64 10 zero_ten ?_; intro w6 r6 g6 z6)
    | (refine wpListIn_store_RowTo (w := w6) rfl 68 _ _ rfl w10.heap.size rfl 68 .u64 _ (factors (halfL (clamp key))) rfl r6 10 info_ten HFL.out (by simp) hfw ?_; intro w7 r7 g7 z7)
    | (refine wpListIn_alloc_Row (w := w7) rfl 63 rfl .u64 5 zero_num ?_; intro w8 r8 g8 z8))
  obtain ⟨gf, hgf⟩ : ∃ g, w10.heap.size = g := ⟨_, rfl⟩
  obtain ⟨ga, hga⟩ : ∃ g, w7.heap.size = g := ⟨_, rfl⟩
  have l7 := r7.lt
  rw [hgf] at l10 r7 l7 ⊢
  rw [hga] at l7 r8 ⊢
  have b8 : Below w.heap.size w w8 := ((b10.grown g6 b10.size (by simp)).grown g7 (by have := b10.size; have := g6.size; omega) (fun r e => by have := b10.size; cases e; omega)).grown g8 (by have := b10.size; have := g6.size; have := g7.size; omega) (by simp)
  have e8 := ((e10.grown g6 (by simp)).grown g7 (by intro e; injection e with e; omega)).grown g8 (by simp)
  have s8 := ((s10.grown g6 (by simp)).grown g7 (by intro e; injection e with e; omega)).grown g8 (by simp)
  have f8 := r7.grown g8 (by simp)
  have lb := b10.size
  rw [hgf] at lb
  clear hgf hga s10 e10 b10 r6 g6 g7 g8 z6 z7 z8 r7 w6 w7
  refine ⟨trivial, ?_⟩
  refine (callsIn_wide.2 (pieces_any A m c _)).mono ?_
  rintro e W ⟨rfl, hW⟩
  have lw8 : w8.heap.size < W.heap.size := by rw [hW, World.size_alloc]; omega
  have hbx : W.cell? ⟨w8.heap.size, 0, none⟩ = some (.slice A m c) := by
    rw [hW, cell_of_row _ _ 0 _ _ (0, 0) (heap_alloc_new w8 _)]; rfl
  have i0 : Inv w ga gf gs gr key xss.flatten [] W := by
    rw [hW]
    exact ⟨⟨_, r8.alloc _, settled_zero, by simp [lv, acc, List.replicate, modulus]⟩, f8.alloc _, s8.alloc _, e8.alloc _, b8.alloc b8.size _⟩
  have la := r8.lt
  obtain ⟨bx, hbxe⟩ : ∃ bx, w8.heap.size = bx := ⟨_, rfl⟩
  rw [hbxe] at lw8 hbx la ⊢
  have bW := i0.2.2.2.2
  have hbW : B ≤ W.heap.size := Nat.le_trans hB bW.size
  have hit := fun n => pieces_far n bx B (fun b => b = ga) A m c vs xss W hbx (h.below (bW.mono hB)) (ht.below (bW.mono hB)) hbW (fun b e => by have := bW.size; omega) hm hn hb
  have HPC := Lib.hid (fun x (hx : x ∈ pieces xss.flatten) => pieces_mem hb hx)
  have pieces_next := fun {pre : List (List Int)} {x : List Int} (hp : (pre ++ [x]) <+: pieces xss.flatten) => pieces_next (m := xss.flatten) hb hp
  clear hW r8 f8 s8 e8 b8 hbxe w8 w9 w10 w5
  gi_wp2_with fail
  refine wpIn_rangeFunc_far rfl (by omega) (gf := 60) (lb := #[.pointer (some ⟨bx, 0, none⟩)]) rfl trivial (enters_of Tryd.func60 (by kernel_rfl) rfl)
    (hit _) (fun h k => h.trans k) (fun W l o o' hl ho hc _ => Only.put W l o o' ho hc) (Below.refl _ _) (fun _ => rfl)
    (Inv w ga gf gs gr key xss.flatten) (Inv.far w ga gf gs gr key _ (by omega) (by omega) (by omega) (by omega) bW.size) i0
    (fun x a' pre X => Inv w ga gf gs gr key xss.flatten pre X ∧ ∃ Bx, W.heap.size ≤ Bx ∧ Row X Bx 65 .u8 x ∧ a' = { tmps := #[.agg (arr .u8 key), .slice A m c, .pointer (some ⟨w.heap.size, 0, none⟩), undef, .pointer (some ⟨gr, 0, none⟩), .pointer (some ⟨gq, 0, none⟩), .pointer (some ⟨gs, 0, none⟩), .pointer (some ⟨gf, 0, none⟩), .pointer (some ⟨ga, 0, none⟩), .pointer (some ⟨Bx, 0, none⟩), .agg (arr .u8 key), .agg (arr .u8 (clamp key)), .agg (arr .u8 (clamp key ++ [0])), .agg (arr .u64 (halfL (clamp key))), .slice (some ⟨w.heap.size, 16, none⟩) 16 16, .pointer (some ⟨w.heap.size, 16, none⟩), .agg (arr .u8 ((key.drop 16).take 16)), .agg (arr .u8 ((key.drop 16).take 16 ++ [0])), .agg (arr .u64 (halfL ((key.drop 16).take 16))), .agg (arr .u64 (halfL (clamp key))), .agg (arr .u64 (factors (halfL (clamp key)))), .slice A m c, .func (.func 60) #[] #[.pointer (some ⟨bx, 0, none⟩)], .agg (arr .u8 x), undef, undef, undef, undef, undef, undef, undef, undef, undef, undef, undef], defers := [] }) ?ib ?assign ?body ?done
  case ib =>
    rintro x a' pre X X' row ⟨hi, Bx, h1, h2, h3⟩ hg hr
    refine ⟨Inv.far w ga gf gs gr key _ (B := W.heap.size) (by omega) (by omega) (by omega) (by omega) bW.size pre X X' row hi hg (fun r e => (hr r e).1), Bx, h1, h2.grown hg (fun e => ?_), h3⟩
    obtain ⟨_, o, ho, hc⟩ := hr Bx e.symm
    rw [h2.2] at ho
    cases ho
    cases hc
  case assign =>
    intro l pre x X K hi hp hsz hK
    have hx := HPC.out x (hp.subset (by simp))
    have HXL := Lib.hid hx.1
    have hxw := bs_wf hx.2
    clear hx
    simp only [Held.zip_one, List.setIfInBounds_toArray, List.set_cons_zero, List.set_cons_succ]
    gi_wp2_with (first
      | (refine wpListIn_alloc_Row (w := X) rfl 65 rfl .u8 17 zero_17 ?_; intro X1 q1 g1 z1)
      | (refine wpListIn_store_RowTo (w := X1) rfl 65 _ _ rfl X.heap.size rfl 65 .u8 _ x rfl q1 17 info_17 HXL.out (by simp) hxw ?_; intro X2 q2 g2 z2))
    have b2 : Below X.heap.size X X2 := ((Below.refl _ X).grown g1 (Nat.le_refl _) (by simp)).grown g2 g1.size (fun r e => by cases e; exact Nat.le_refl _)
    refine hK _ _ ((Held.others_of_new g1).trans (Held.others_of_grown q1.2 g2)) (Only.of_below b2) ⟨Inv.far w ga gf gs gr key _ (B := W.heap.size) (by omega) (by omega) (by omega) (by omega) bW.size pre X _ none hi (grown_of_below b2 none) (fun r e => by cases e), X.heap.size, hsz, q2, rfl⟩
  case body =>
    rintro l pre x a' X ⟨⟨⟨a, i1, i2, i3⟩, i4, i5, i6, ib⟩, Bx, hBx, hrx, rfl⟩ hp hsz
    have hx := HPC.out x (hp.subset (by simp))
    have hnx := pieces_next hp
    have h3 := i2.length
    have hlim : ∀ z ∈ limbs (val x), 0 ≤ z ∧ z < 67108864 := limbs_bound _
    have hsum : ∀ z ∈ addL a (limbs (val x)), 0 ≤ z ∧ z < 268435456 := fun z hz => by have := addL_bound i2.bound hlim z hz; omega
    have hsl5 : (addL a (limbs (val x))).length = 5 := addL_length h3 rfl
    have hmb := mulL_bound hsum (half_bound (clamp key))
    have hst := settle_settled (mulL_length (addL a (limbs (val x))) (halfL (clamp key))) hmb
    have hmod : lv (settle (mulL (addL a (limbs (val x))) (halfL (clamp key)))) % modulus = acc (val (clamp key)) xss.flatten (pre ++ [x]).length := by
      rw [settle_mod (mulL_length _ _), mulL_mod hsl5 rfl, lv_addL h3, lv_limbs hnx.2.1 hnx.2.2, half_lv HC.out (clamp_length key), List.length_append, List.length_singleton, step_eq, ← hnx.1, ← i3]
      exact mod_step _ _ _
    have HMOD := Lib.hid hmod
    have HST := Lib.hid hst
    have hsw : ∀ z ∈ settle (mulL (addL a (limbs (val x))) (halfL (clamp key))), (Lit.int .u64 z).wf = true := fun z hz => wf_64 (by have := hst.bound z hz; omega)
    have hsln : (settle (mulL (addL a (limbs (val x))) (halfL (clamp key)))).length = 5 := hst.length
    clear hmod hp
    gi_wp2_with fail
    refine Held.wpIn_region_heldR (r := some l) (S := fun Y => X.grownBy Y (some ga)) rfl (by kernel_rfl) (by kernel_rfl) (fun a w h => h) ?_
    change wpAnyH _ _ _ _ _ _ _ _ X.drew
    have c0 : X.grownBy X.drew (some ga) := grown_of_below (below_drewN (Below.refl X.heap.size X) 1) _
    refine Held.take (v := .agg (arr .u8 x)) 1 (some 25) rfl rfl (by kernel_rfl) (by kernel_rfl) (by kernel_rfl) (fun _ _ _ h => h) rfl (Held.y_load_Row rfl rfl Tryd.underlying65 info_17 hx.1 (fun X hX => hrx.grown hX (by intro e; injection e with e; omega))) c0 ?_
    simp only [Act.put, List.setIfInBounds_toArray, List.set_cons_zero, List.set_cons_succ]
    refine Held.take (v := .agg (arr .u64 (factors (halfL (clamp key))))) 4 (some 28) rfl rfl (by kernel_rfl) (by kernel_rfl) (by kernel_rfl) (fun _ _ _ h => h) rfl (Held.y_load_Row rfl rfl Tryd.underlying68 info_ten HFL.out (fun X hX => i4.grown hX (by intro e; injection e with e; omega))) c0 ?_
    simp only [Act.put, List.setIfInBounds_toArray, List.set_cons_zero, List.set_cons_succ]
    refine Held.two 0 2 (by kernel_rfl) ?_ ?_
    · refine Held.op_load 0 (some 24) 63 ⟨ga, 0, none⟩ (.agg (arr .u64 a)) rfl rfl rfl rfl rfl (run_loadVar_row X.drew ga 63 63 (arr .u64 a) (0, 0) _ i1.2 Tryd.underlying63 rfl (by rw [info_num, arr_size, h3])) ?_
      refine ⟨c0, ?_⟩
      simp only [Act.put, List.setIfInBounds_toArray, List.set_cons_zero, List.set_cons_succ]
      refine Held.one 2 (by kernel_rfl) ?_
      refine Held.op_call 2 (some 26) 42 #[.agg (arr .u8 x)] rfl rfl rfl rfl (enters_of Tryd.func42 (by kernel_rfl) rfl) (by simp [Act.eval]) (read_any x X.drew hx.1 hx.2) ?_
      rintro e w1 ⟨rfl, b1⟩
      have c1 : X.grownBy w1 (some ga) := Lib.grownBy_trans c0 (grown_of_below b1 _)
      have p1 := Row.below (w := X.drew) i1 b1 i1.lt
      refine ⟨_, rfl, c1, ?_⟩
      simp only [Act.put, List.setIfInBounds_toArray, List.set_cons_zero, List.set_cons_succ]
      refine Held.one 3 (by kernel_rfl) ?_
      refine Held.op_call 3 (some 27) 48 #[.agg (arr .u64 a), .agg (arr .u64 (limbs (val x)))] rfl rfl rfl rfl (enters_of Tryd.func48 (by kernel_rfl) rfl) (by simp [Act.eval]) (plus_any a (limbs (val x)) w1 h3 rfl (fun z hz => by have := i2.bound z hz; omega) (fun z hz => by have := hlim z hz; omega)) ?_
      rintro e w2 ⟨rfl, b2⟩
      have c2 : X.grownBy w2 (some ga) := Lib.grownBy_trans c1 (grown_of_below b2 _)
      refine ⟨_, rfl, c2, ?_⟩
      simp only [Act.put, List.setIfInBounds_toArray, List.set_cons_zero, List.set_cons_succ]
      refine Held.one 5 (by kernel_rfl) ?_
      refine Held.op_call 5 (some 29) 47 #[.agg (arr .u64 (addL a (limbs (val x)))), .agg (arr .u64 (factors (halfL (clamp key))))] rfl rfl rfl rfl (enters_of Tryd.func47 (by kernel_rfl) rfl) (by simp [Act.eval]) (times_any (addL a (limbs (val x))) (halfL (clamp key)) w2 hsl5 rfl hsum (half_bound _)) ?_
      rintro e w3 ⟨rfl, b3⟩
      have c3 : X.grownBy w3 (some ga) := Lib.grownBy_trans c2 (grown_of_below b3 _)
      refine ⟨_, rfl, c3, ?_⟩
      simp only [Act.put, List.setIfInBounds_toArray, List.set_cons_zero, List.set_cons_succ]
      refine Held.one 6 (by kernel_rfl) ?_
      have p3 := (p1.below b2 p1.lt).below b3 (p1.below b2 p1.lt).lt
      refine Held.op_store_RowL 6 none 63 ga 63 .u64 a (settle (mulL (addL a (limbs (val x))) (halfL (clamp key)))) rfl rfl rfl rfl rfl rfl p3 5 info_num hsln h3 hsw ?_
      intro w4 r4 g4
      have c4 : X.grownBy w4 (some ga) := Lib.grownBy_trans c3 g4
      refine ⟨c4, ?_⟩
      simp only [Act.put]
      refine wpAnyH_done (by kernel_rfl) ?_ _
      exact ⟨Held.others_of_grown i1.2 c4, Only.of_grown c4 (fun r e => by cases e; rfl), ⟨_, r4, HST.out, HMOD.out⟩, i4.grown c4 (by intro e; injection e with e; omega), i5.grown c4 (by intro e; injection e with e; omega), i6.grown c4 (by intro e; injection e with e; omega), ib.grown c4 ib.size (fun r e => by cases e; omega)⟩
    · refine Held.op_call 2 (some 26) 42 #[.agg (arr .u8 x)] rfl rfl rfl rfl (enters_of Tryd.func42 (by kernel_rfl) rfl) (by simp [Act.eval]) (read_any x X.drew hx.1 hx.2) ?_
      rintro e w1 ⟨rfl, b1⟩
      have c1 : X.grownBy w1 (some ga) := Lib.grownBy_trans c0 (grown_of_below b1 _)
      have p1 := Row.below (w := X.drew) i1 b1 i1.lt
      refine ⟨_, rfl, c1, ?_⟩
      simp only [Act.put, List.setIfInBounds_toArray, List.set_cons_zero, List.set_cons_succ]
      refine Held.one 0 (by kernel_rfl) ?_
      refine Held.op_load 0 (some 24) 63 ⟨ga, 0, none⟩ (.agg (arr .u64 a)) rfl rfl rfl rfl rfl (run_loadVar_row w1 ga 63 63 (arr .u64 a) (0, 0) _ p1.2 Tryd.underlying63 rfl (by rw [info_num, arr_size, h3])) ?_
      refine ⟨c1, ?_⟩
      simp only [Act.put, List.setIfInBounds_toArray, List.set_cons_zero, List.set_cons_succ]
      refine Held.one 3 (by kernel_rfl) ?_
      refine Held.op_call 3 (some 27) 48 #[.agg (arr .u64 a), .agg (arr .u64 (limbs (val x)))] rfl rfl rfl rfl (enters_of Tryd.func48 (by kernel_rfl) rfl) (by simp [Act.eval]) (plus_any a (limbs (val x)) w1 h3 rfl (fun z hz => by have := i2.bound z hz; omega) (fun z hz => by have := hlim z hz; omega)) ?_
      rintro e w2 ⟨rfl, b2⟩
      have c2 : X.grownBy w2 (some ga) := Lib.grownBy_trans c1 (grown_of_below b2 _)
      refine ⟨_, rfl, c2, ?_⟩
      simp only [Act.put, List.setIfInBounds_toArray, List.set_cons_zero, List.set_cons_succ]
      refine Held.one 5 (by kernel_rfl) ?_
      refine Held.op_call 5 (some 29) 47 #[.agg (arr .u64 (addL a (limbs (val x)))), .agg (arr .u64 (factors (halfL (clamp key))))] rfl rfl rfl rfl (enters_of Tryd.func47 (by kernel_rfl) rfl) (by simp [Act.eval]) (times_any (addL a (limbs (val x))) (halfL (clamp key)) w2 hsl5 rfl hsum (half_bound _)) ?_
      rintro e w3 ⟨rfl, b3⟩
      have c3 : X.grownBy w3 (some ga) := Lib.grownBy_trans c2 (grown_of_below b3 _)
      refine ⟨_, rfl, c3, ?_⟩
      simp only [Act.put, List.setIfInBounds_toArray, List.set_cons_zero, List.set_cons_succ]
      refine Held.one 6 (by kernel_rfl) ?_
      have p3 := (p1.below b2 p1.lt).below b3 (p1.below b2 p1.lt).lt
      refine Held.op_store_RowL 6 none 63 ga 63 .u64 a (settle (mulL (addL a (limbs (val x))) (halfL (clamp key)))) rfl rfl rfl rfl rfl rfl p3 5 info_num hsln h3 hsw ?_
      intro w4 r4 g4
      have c4 : X.grownBy w4 (some ga) := Lib.grownBy_trans c3 g4
      refine ⟨c4, ?_⟩
      simp only [Act.put]
      refine wpAnyH_done (by kernel_rfl) ?_ _
      exact ⟨Held.others_of_grown i1.2 c4, Only.of_grown c4 (fun r e => by cases e; rfl), ⟨_, r4, HST.out, HMOD.out⟩, i4.grown c4 (by intro e; injection e with e; omega), i5.grown c4 (by intro e; injection e with e; omega), i6.grown c4 (by intro e; injection e with e; omega), ib.grown c4 ib.size (fun r e => by cases e; omega)⟩
  case done =>
    intro D X hD ⟨⟨a, i1, i2, i3⟩, i4, i5, i6, ib⟩ hDl
    rw [pieces_length] at i3
    have hrd := reduce_wf i2
    have h3 := i2.length
    have hsl5 : (addL (reduce a) (halfL ((key.drop 16).take 16))).length = 5 := addL_length hrd.1 rfl
    have hsum : ∀ z ∈ addL (reduce a) (halfL ((key.drop 16).take 16)), 0 ≤ z ∧ z < 268435456 := fun z hz => by have := addL_bound hrd.2.2 (half_bound _) z hz; omega
    have hout : digits (lv (addL (reduce a) (halfL ((key.drop 16).take 16)))) 16 = poly key xss.flatten := by
      rw [lv_addL hrd.1, half_lv HD.out HDL.out, poly, ← i3]
      refine digits_mod 16 ?_
      have := reduce_mod i2
      omega
    have HOUT := Lib.hid hout
    have hsz : X.heap.size = X.heap.size := rfl
    clear hout i3
    gi_wp2_with fail
    refine Held.wpIn_region_heldR (r := none) (S := fun _ => True) rfl (by kernel_rfl) (by kernel_rfl) (fun a w h => by obtain ⟨e, _⟩ := h; cases e) ?_
    change wpAnyH _ _ _ _ _ _ _ _ X.drew
    have c0 : X.grownBy X.drew (some gr) := grown_of_below (below_drewN (Below.refl X.heap.size X) 1) _
    refine Held.two 0 2 (by kernel_rfl) ?_ ?_
    · refine Held.op_load 0 (some 30) 63 ⟨ga, 0, none⟩ (.agg (arr .u64 a)) rfl rfl rfl rfl rfl (run_loadVar_row X.drew ga 63 63 (arr .u64 a) (0, 0) _ (i1).2 Tryd.underlying63 rfl (by rw [info_num, arr_size, h3])) ?_
      refine ⟨trivial, ?_⟩
      simp only [Act.put, List.setIfInBounds_toArray, List.set_cons_zero, List.set_cons_succ]
      refine Held.two 1 2 (by kernel_rfl) ?_ ?_
      · refine Held.op_call 1 (some 31) 50 #[.agg (arr .u64 a)] rfl rfl rfl rfl (enters_of Tryd.func50 (by kernel_rfl) rfl) (by simp [Act.eval]) (reduced_any a X.drew i2) ?_
        rintro e w1 ⟨rfl, b1⟩
        refine ⟨_, rfl, trivial, ?_⟩
        simp only [Act.put, List.setIfInBounds_toArray, List.set_cons_zero, List.set_cons_succ]
        refine Held.one 2 (by kernel_rfl) ?_
        refine Held.op_load 2 (some 32) 63 ⟨gs, 0, none⟩ (.agg (arr .u64 (halfL ((key.drop 16).take 16)))) rfl rfl rfl rfl rfl (run_loadVar_row w1 gs 63 63 (arr .u64 (halfL ((key.drop 16).take 16))) (0, 0) _ (Row.below (w := X.drew) i5 b1 i5.lt).2 Tryd.underlying63 rfl (by rw [info_num, arr_size, half_length])) ?_
        refine ⟨trivial, ?_⟩
        simp only [Act.put, List.setIfInBounds_toArray, List.set_cons_zero, List.set_cons_succ]
        have c1 : X.grownBy w1 (some gr) := Lib.grownBy_trans c0 (grown_of_below b1 _)
        refine Held.one 3 (by kernel_rfl) ?_
        refine Held.op_call 3 (some 33) 48 #[.agg (arr .u64 (reduce a)), .agg (arr .u64 (halfL ((key.drop 16).take 16)))] rfl rfl rfl rfl (enters_of Tryd.func48 (by kernel_rfl) rfl) (by simp [Act.eval]) (plus_any (reduce a) (halfL ((key.drop 16).take 16)) w1 hrd.1 rfl (fun z hz => by have := hrd.2.2 z hz; omega) (fun z hz => by have := half_bound _ z hz; omega)) ?_
        rintro e w2 ⟨rfl, b2⟩
        have c2 : X.grownBy w2 (some gr) := Lib.grownBy_trans c1 (grown_of_below b2 _)
        refine ⟨_, rfl, trivial, ?_⟩
        simp only [Act.put, List.setIfInBounds_toArray, List.set_cons_zero, List.set_cons_succ]
        refine Held.one 4 (by kernel_rfl) ?_
        refine Held.op_call 4 (some 34) 49 #[.agg (arr .u64 (addL (reduce a) (halfL ((key.drop 16).take 16))))] rfl rfl rfl rfl (enters_of Tryd.func49 (by kernel_rfl) rfl) (by simp [Act.eval]) (lowest_any (addL (reduce a) (halfL ((key.drop 16).take 16))) w2 hsl5 hsum) ?_
        rintro e w3 ⟨rfl, b3⟩
        have c3 : X.grownBy w3 (some gr) := Lib.grownBy_trans c2 (grown_of_below b3 _)
        rw [HOUT.out]
        refine ⟨_, rfl, trivial, ?_⟩
        simp only [Act.put, List.setIfInBounds_toArray, List.set_cons_zero, List.set_cons_succ]
        refine Held.one 5 (by kernel_rfl) ?_
        have p1 := Row.below (w := X.drew) i6 b1 i6.lt
        have p3 := (p1.below b2 p1.lt).below b3 (p1.below b2 p1.lt).lt
        refine Held.op_store_RowL 5 none 41 gr 41 .u8 _ (poly key xss.flatten) rfl rfl rfl rfl rfl rfl p3 16 info_16b (poly_length _ _) (by simp) (bs_wf (poly_bytes _ _)) ?_
        intro w4 r4 g4
        have c4 : X.grownBy w4 (some gr) := Lib.grownBy_trans c3 g4
        refine ⟨trivial, ?_⟩
        simp only [Act.put]
        refine wpAnyH_done (by kernel_rfl) ?_ _
        have d4 := (c4.block D (Array.getElem?_eq_some_iff.1 hDl).1 (by intro e; injection e with e; omega)).trans hDl
        have b4 : Below w.heap.size w w4 := ib.grown c4 ib.size (fun r e => by cases e; omega)
        gi_wp2_with fail
        refine ⟨by simp, .inl ⟨_, _, rfl, run_takeDeferred d4, ?_⟩⟩
        have hDr : D ≠ gr := by omega
        have r9 : Row (w4.putObj D (.deferred none)) gr 41 .u8 (poly key xss.flatten) := ⟨r4.1, (World.putObj_heap_other (fun e => hDr e.symm)).trans r4.2⟩
        refine ⟨.agg (arr .u8 (poly key xss.flatten)), results_Row rfl _ _ gr _ _ _ rfl r9 16 5 Tryd.underlying41 info_16b (poly_length _ _), rfl, ?_⟩
        exact b4.grown (grownBy_putObj' _ D _) b4.size (fun r e => by cases e; omega)
      · refine Held.op_load 2 (some 32) 63 ⟨gs, 0, none⟩ (.agg (arr .u64 (halfL ((key.drop 16).take 16)))) rfl rfl rfl rfl rfl (run_loadVar_row X.drew gs 63 63 (arr .u64 (halfL ((key.drop 16).take 16))) (0, 0) _ (i5).2 Tryd.underlying63 rfl (by rw [info_num, arr_size, half_length])) ?_
        refine ⟨trivial, ?_⟩
        simp only [Act.put, List.setIfInBounds_toArray, List.set_cons_zero, List.set_cons_succ]
        refine Held.one 1 (by kernel_rfl) ?_
        refine Held.op_call 1 (some 31) 50 #[.agg (arr .u64 a)] rfl rfl rfl rfl (enters_of Tryd.func50 (by kernel_rfl) rfl) (by simp [Act.eval]) (reduced_any a X.drew i2) ?_
        rintro e w1 ⟨rfl, b1⟩
        refine ⟨_, rfl, trivial, ?_⟩
        simp only [Act.put, List.setIfInBounds_toArray, List.set_cons_zero, List.set_cons_succ]
        have c1 : X.grownBy w1 (some gr) := Lib.grownBy_trans c0 (grown_of_below b1 _)
        refine Held.one 3 (by kernel_rfl) ?_
        refine Held.op_call 3 (some 33) 48 #[.agg (arr .u64 (reduce a)), .agg (arr .u64 (halfL ((key.drop 16).take 16)))] rfl rfl rfl rfl (enters_of Tryd.func48 (by kernel_rfl) rfl) (by simp [Act.eval]) (plus_any (reduce a) (halfL ((key.drop 16).take 16)) w1 hrd.1 rfl (fun z hz => by have := hrd.2.2 z hz; omega) (fun z hz => by have := half_bound _ z hz; omega)) ?_
        rintro e w2 ⟨rfl, b2⟩
        have c2 : X.grownBy w2 (some gr) := Lib.grownBy_trans c1 (grown_of_below b2 _)
        refine ⟨_, rfl, trivial, ?_⟩
        simp only [Act.put, List.setIfInBounds_toArray, List.set_cons_zero, List.set_cons_succ]
        refine Held.one 4 (by kernel_rfl) ?_
        refine Held.op_call 4 (some 34) 49 #[.agg (arr .u64 (addL (reduce a) (halfL ((key.drop 16).take 16))))] rfl rfl rfl rfl (enters_of Tryd.func49 (by kernel_rfl) rfl) (by simp [Act.eval]) (lowest_any (addL (reduce a) (halfL ((key.drop 16).take 16))) w2 hsl5 hsum) ?_
        rintro e w3 ⟨rfl, b3⟩
        have c3 : X.grownBy w3 (some gr) := Lib.grownBy_trans c2 (grown_of_below b3 _)
        rw [HOUT.out]
        refine ⟨_, rfl, trivial, ?_⟩
        simp only [Act.put, List.setIfInBounds_toArray, List.set_cons_zero, List.set_cons_succ]
        refine Held.one 5 (by kernel_rfl) ?_
        have p1 := Row.below (w := X.drew) i6 b1 i6.lt
        have p3 := (p1.below b2 p1.lt).below b3 (p1.below b2 p1.lt).lt
        refine Held.op_store_RowL 5 none 41 gr 41 .u8 _ (poly key xss.flatten) rfl rfl rfl rfl rfl rfl p3 16 info_16b (poly_length _ _) (by simp) (bs_wf (poly_bytes _ _)) ?_
        intro w4 r4 g4
        have c4 : X.grownBy w4 (some gr) := Lib.grownBy_trans c3 g4
        refine ⟨trivial, ?_⟩
        simp only [Act.put]
        refine wpAnyH_done (by kernel_rfl) ?_ _
        have d4 := (c4.block D (Array.getElem?_eq_some_iff.1 hDl).1 (by intro e; injection e with e; omega)).trans hDl
        have b4 : Below w.heap.size w w4 := ib.grown c4 ib.size (fun r e => by cases e; omega)
        gi_wp2_with fail
        refine ⟨by simp, .inl ⟨_, _, rfl, run_takeDeferred d4, ?_⟩⟩
        have hDr : D ≠ gr := by omega
        have r9 : Row (w4.putObj D (.deferred none)) gr 41 .u8 (poly key xss.flatten) := ⟨r4.1, (World.putObj_heap_other (fun e => hDr e.symm)).trans r4.2⟩
        refine ⟨.agg (arr .u8 (poly key xss.flatten)), results_Row rfl _ _ gr _ _ _ rfl r9 16 5 Tryd.underlying41 info_16b (poly_length _ _), rfl, ?_⟩
        exact b4.grown (grownBy_putObj' _ D _) b4.size (fun r e => by cases e; omega)
    · refine Held.op_load 2 (some 32) 63 ⟨gs, 0, none⟩ (.agg (arr .u64 (halfL ((key.drop 16).take 16)))) rfl rfl rfl rfl rfl (run_loadVar_row X.drew gs 63 63 (arr .u64 (halfL ((key.drop 16).take 16))) (0, 0) _ (i5).2 Tryd.underlying63 rfl (by rw [info_num, arr_size, half_length])) ?_
      refine ⟨trivial, ?_⟩
      simp only [Act.put, List.setIfInBounds_toArray, List.set_cons_zero, List.set_cons_succ]
      refine Held.one 0 (by kernel_rfl) ?_
      refine Held.op_load 0 (some 30) 63 ⟨ga, 0, none⟩ (.agg (arr .u64 a)) rfl rfl rfl rfl rfl (run_loadVar_row X.drew ga 63 63 (arr .u64 a) (0, 0) _ (i1).2 Tryd.underlying63 rfl (by rw [info_num, arr_size, h3])) ?_
      refine ⟨trivial, ?_⟩
      simp only [Act.put, List.setIfInBounds_toArray, List.set_cons_zero, List.set_cons_succ]
      refine Held.one 1 (by kernel_rfl) ?_
      refine Held.op_call 1 (some 31) 50 #[.agg (arr .u64 a)] rfl rfl rfl rfl (enters_of Tryd.func50 (by kernel_rfl) rfl) (by simp [Act.eval]) (reduced_any a X.drew i2) ?_
      rintro e w1 ⟨rfl, b1⟩
      refine ⟨_, rfl, trivial, ?_⟩
      simp only [Act.put, List.setIfInBounds_toArray, List.set_cons_zero, List.set_cons_succ]
      have c1 : X.grownBy w1 (some gr) := Lib.grownBy_trans c0 (grown_of_below b1 _)
      refine Held.one 3 (by kernel_rfl) ?_
      refine Held.op_call 3 (some 33) 48 #[.agg (arr .u64 (reduce a)), .agg (arr .u64 (halfL ((key.drop 16).take 16)))] rfl rfl rfl rfl (enters_of Tryd.func48 (by kernel_rfl) rfl) (by simp [Act.eval]) (plus_any (reduce a) (halfL ((key.drop 16).take 16)) w1 hrd.1 rfl (fun z hz => by have := hrd.2.2 z hz; omega) (fun z hz => by have := half_bound _ z hz; omega)) ?_
      rintro e w2 ⟨rfl, b2⟩
      have c2 : X.grownBy w2 (some gr) := Lib.grownBy_trans c1 (grown_of_below b2 _)
      refine ⟨_, rfl, trivial, ?_⟩
      simp only [Act.put, List.setIfInBounds_toArray, List.set_cons_zero, List.set_cons_succ]
      refine Held.one 4 (by kernel_rfl) ?_
      refine Held.op_call 4 (some 34) 49 #[.agg (arr .u64 (addL (reduce a) (halfL ((key.drop 16).take 16))))] rfl rfl rfl rfl (enters_of Tryd.func49 (by kernel_rfl) rfl) (by simp [Act.eval]) (lowest_any (addL (reduce a) (halfL ((key.drop 16).take 16))) w2 hsl5 hsum) ?_
      rintro e w3 ⟨rfl, b3⟩
      have c3 : X.grownBy w3 (some gr) := Lib.grownBy_trans c2 (grown_of_below b3 _)
      rw [HOUT.out]
      refine ⟨_, rfl, trivial, ?_⟩
      simp only [Act.put, List.setIfInBounds_toArray, List.set_cons_zero, List.set_cons_succ]
      refine Held.one 5 (by kernel_rfl) ?_
      have p1 := Row.below (w := X.drew) i6 b1 i6.lt
      have p3 := (p1.below b2 p1.lt).below b3 (p1.below b2 p1.lt).lt
      refine Held.op_store_RowL 5 none 41 gr 41 .u8 _ (poly key xss.flatten) rfl rfl rfl rfl rfl rfl p3 16 info_16b (poly_length _ _) (by simp) (bs_wf (poly_bytes _ _)) ?_
      intro w4 r4 g4
      have c4 : X.grownBy w4 (some gr) := Lib.grownBy_trans c3 g4
      refine ⟨trivial, ?_⟩
      simp only [Act.put]
      refine wpAnyH_done (by kernel_rfl) ?_ _
      have d4 := (c4.block D (Array.getElem?_eq_some_iff.1 hDl).1 (by intro e; injection e with e; omega)).trans hDl
      have b4 : Below w.heap.size w w4 := ib.grown c4 ib.size (fun r e => by cases e; omega)
      gi_wp2_with fail
      refine ⟨by simp, .inl ⟨_, _, rfl, run_takeDeferred d4, ?_⟩⟩
      have hDr : D ≠ gr := by omega
      have r9 : Row (w4.putObj D (.deferred none)) gr 41 .u8 (poly key xss.flatten) := ⟨r4.1, (World.putObj_heap_other (fun e => hDr e.symm)).trans r4.2⟩
      refine ⟨.agg (arr .u8 (poly key xss.flatten)), results_Row rfl _ _ gr _ _ _ rfl r9 16 5 Tryd.underlying41 info_16b (poly_length _ _), rfl, ?_⟩
      exact b4.grown (grownBy_putObj' _ D _) b4.size (fun r e => by cases e; omega)
end Go.Proofs.YtebcejncjljmhaaDoor.Po
namespace Go.Proofs.YtebcejncjljmhaaDoor.Ae
open Go.RowKit Go.Shelf Go.Proofs.YtebcejncjljmhaaDoor.Mem Go.Proofs.YtebcejncjljmhaaDoor.Help Go.Proofs.YtebcejncjljmhaaDoor.Sum Go.Proofs.YtebcejncjljmhaaDoor.Po Go.Proofs.YtebcejncjljmhaaDoor.Range Go.Proofs.YtebcejncjljmhaaDoor.Sha Go.Proofs.YtebcejncjljmhaaDoor
set_option linter.unusedVariables false
attribute [local go_sem] Oper.semAt_some
attribute [local irreducible] wpList wpListIn Calls

/-- a part and its zeros -/
def pair (x : List Int) : List (List Int) := [x, List.replicate (padN x.length) 0]
theorem ints_of {w : World} {g m : Nat} {t : TypeId} {k : IntKind} {zs : List Int} {S : Nat → Prop} (h : Row w g t k zs) (hl : zs.length = m) (hg : ¬ S g) : IntsN w k S (some ⟨g, 0, none⟩) m zs := by
  subst hl
  exact IntsN.row h hg
/-- what stands between two rounds -/
def Inv (w : World) (Z lb gk gn gr : Nat) (key nonce : List Int) (pre : List (List Int)) (W : World) : Prop :=
  ∃ A c, Lst w Z lb gk gn gr key nonce (.slice A (2 * pre.length) c) (pre.flatMap pair) A (2 * pre.length) c W

set_option maxRecDepth 100000 in
set_option maxHeartbeats 4000000 in
theorem tagof_any (key nonce : List Int) (B : Nat) (A : Option Addr) (n c : Nat) (xs : List Int) (B2 : Nat) (A2 : Option Addr) (n2 c2 : Nat) (ys : List Int) (w : World) (hk : key.length = 32) (hkb : Bs key) (hnl : nonce.length = 12) (hnb : Bs nonce)
    (h : Ints w .u8 B A n xs) (hB : B ≤ w.heap.size) (hc : n ≤ c) (hcm : c ≤ maxLen) (hn : n ≤ 274877906944) (h2 : Ints w .u8 B2 A2 n2 ys) (hB2 : B2 ≤ w.heap.size) (hc2 : n2 ≤ c2) (hcm2 : c2 ≤ maxLen) (hn2 : n2 ≤ 274877906944)
    (hT : Sha.Tab w 1 Cc.sigma) (hP : TabK w 0 .u8 keptI) :
    Calls Tryd.prog 22 #[.agg (arr .u8 key), .agg (arr .u8 nonce), .slice A n c, .slice A2 n2 c2] w fun e w' => e = .returned (.agg (arr .u8 (aeTag key nonce xs ys))) ∧ Below w.heap.size w w' := by
  refine (callsIn_wide (n := 3)).1 ?_
  refine callsIn_of_wp_marks Tryd.func22 rfl trivial ?_ rfl
  simp only [Tryd.ntmps22, List.size_toArray, List.length_cons, List.length_nil, Nat.reduceAdd, Nat.reduceSub, Array.replicate_succ, Array.replicate_zero, List.push_toArray, List.append_toArray, List.nil_append, List.cons_append]
  have HK := Lib.hid hk
  have HN := Lib.hid hnl
  clear hk hnl
  gi_wp2_with (first
    | (refine wpListIn_box_Row rfl 22 _ rfl .u8 key rfl (bs_wf hkb) ?_; intro w1 r1 g1 z1)
    | (refine wpListIn_box_Row (w := w1) rfl 23 _ rfl .u8 nonce rfl (bs_wf hnb) ?_; intro w2 r2 g2 z2; have k2 := r1.grown g2 (by simp))
    | (refine wpListIn_alloc_Row (w := w2) rfl 41 rfl .u8 16 zero_16b ?_; intro w3 r3 g3 z3; have k3 := k2.grown g3 (by simp); have n3 := r2.grown g3 (by simp))
    | (refine Held.wpListIn_alloc_cell (w := w3) rfl 49 rfl (.slice none 0 0) zero_list rfl ?_; intro w4 l4 g4 z4))
  obtain ⟨gn, hgn⟩ : ∃ g, w1.heap.size = g := ⟨_, rfl⟩
  obtain ⟨gr, hgr⟩ : ∃ g, w2.heap.size = g := ⟨_, rfl⟩
  obtain ⟨lb, hlb⟩ : ∃ g, w3.heap.size = g := ⟨_, rfl⟩
  obtain ⟨gp, hgp⟩ : ∃ g, w4.heap.size = g := ⟨_, rfl⟩
  have e1 := z1.out
  have e2 := z2.out
  have e3 := z3.out
  have e4 := z4.out
  rw [hgn] at e1 e2 n3
  rw [hgr] at e2 e3 r3
  rw [hlb] at e3 e4 l4
  have k4 := k3.grown g4 (by simp)
  have n4 := n3.grown g4 (by simp)
  have r4 := r3.grown g4 (by simp)
  have b4 : Below w.heap.size w w4 := ((((Below.refl _ w).grown g1 (Nat.le_refl _) (by simp)).grown g2 g1.size (by simp)).grown g3 (by omega) (by simp)).grown g4 (by omega) (by simp)
  have HG1 := Lib.hid (show w.heap.size < gr by omega)
  have HG2 := Lib.hid (show gn < gr by omega)
  have hord : w.heap.size ≤ w.heap.size ∧ w.heap.size ≤ gn ∧ w.heap.size ≤ gr ∧ w.heap.size < lb ∧ gn < lb ∧ gr < lb ∧ lb < gp + 2 := by omega
  have hlbp : lb < gp := by omega
  have HGP := Lib.hid hgp
  rw [hgp] at e4
  rw [hgn, hgr, hlb, hgp]
  clear hgn hgr hlb hgp e1 e2 e3 e4 z1 z2 z3 z4 g1 g2 g3 g4 k2 k3 n3 r1 r2 r3 w1 w2 w3
  refine ⟨trivial, ?_⟩
  refine (callsIn_wide.2 (paddings_any (some ⟨gp, 0, none⟩) 2 2 _)).mono ?_
  rintro e W6 ⟨rfl, hW6⟩
  have z6 : W6.heap.size = gp + 2 := by rw [hW6]; simp [HGP.out]
  have g6 : w4.grownBy W6 none := by rw [hW6]; exact Lib.grownBy_trans (World.grownBy_alloc _ _ none) (World.grownBy_alloc _ _ none)
  have q1 : W6.cell? ⟨gp + 1, 0, none⟩ = some (.slice (some ⟨gp, 0, none⟩) 2 2) := by rw [hW6, World.cell?_alloc_at _ _ _ _ (by simp [HGP.out])]; rfl
  have qr : W6.heap[gp]? = some (.cells #[.slice A n c, .slice A2 n2 c2] 24 (0, 0)) := by
    rw [hW6, Below.heap_alloc _ _ _ (by simp [HGP.out]), ← HGP.out]
    exact heap_alloc_new w4 _
  rw [World.size_alloc, HGP.out]
  have b6 : Below w.heap.size w W6 := b4.grown g6 b4.size (by simp)
  have L6 : Lst w (gp + 2) lb w.heap.size gn gr key nonce (.slice none 0 0) [] none 0 0 W6 :=
    ⟨hord, by omega, (g6.block lb (Array.getElem?_eq_some_iff.1 l4).1 (by simp)).trans l4, ⟨[], World.ownsRow_nil _ _ _ _, TextsN.nil _ _⟩, k4.grown g6 (by simp), n4.grown g6 (by simp), r4.grown g6 (by simp), b6⟩
  have i6 : Inv w (gp + 2) lb w.heap.size gn gr key nonce [] W6 := ⟨none, 0, L6⟩
  obtain ⟨S, hS⟩ : ∃ S : Nat → Prop, S = fun b => b = lb ∨ gp + 2 ≤ b := ⟨_, rfl⟩
  have hS1 : ∀ b, b < w.heap.size → ¬ S b := fun b hb e => by rw [hS] at e; omega
  have hSp : ¬ S gp := fun e => by rw [hS] at e; omega
  have hSb : ¬ S (gp + 1) := fun e => by rw [hS] at e; omega
  have va : ValsA W6 S (some ⟨gp, 0, none⟩) 2 [.slice A n c, .slice A2 n2 c2] := ⟨rfl, fun _ => ⟨gp, 0, rfl, hSp, fun i hi => by
    rw [Nat.zero_add, cell_of_row W6 gp i _ 24 (0, 0) qr]
    match i, hi with
    | 0, _ => rfl
    | 1, _ => rfl⟩⟩
  have ta : ∀ i, i < 2 → ∃ A' n' c', [Value.slice A n c, Value.slice A2 n2 c2].getD i undef = .slice A' n' c' ∧ n' ≤ c' ∧ c' ≤ maxLen ∧ IntsN W6 .u8 S A' n' ([xs, ys].getD i []) := fun i hi => by
    match i, hi with
    | 0, _ => exact ⟨A, n, c, rfl, hc, hcm, IntsN.of (h.below (b6.mono hB)) (fun b hb => hS1 b (by omega))⟩
    | 1, _ => exact ⟨A2, n2, c2, rfl, hc2, hcm2, IntsN.of (h2.below (b6.mono hB2)) (fun b hb => hS1 b (by omega))⟩
  have hit := fun N => paddings_give N (gp + 1) S (some ⟨gp, 0, none⟩) 2 2 _ [xs, ys] W6 q1 hSb va rfl ta (by omega)
  have Z6 := Lib.hid z6
  have HXL := Lib.hid h.1
  have HYL := Lib.hid h2.1
  have HBX := Lib.hid (Cha.bs_of_ints h)
  have HBY := Lib.hid (Cha.bs_of_ints h2)
  have HS := Lib.hid hS
  clear hS hW6 z6 g6 q1 qr va ta k4 n4 r4 l4 b4 L6 hS1 hSp hSb HGP w4 h h2
  gi_wp2_with fail
  refine wpIn_rangeFunc_give rfl (by omega) (gf := 41) (lb := #[.pointer (some ⟨gp + 1, 0, none⟩)]) rfl trivial (enters_of Tryd.func41 (by kernel_rfl) rfl)
    (hit _) (fun h k => h.trans k) (fun W l o o' hl ho hc _ => Only.put W l o o' ho hc) (Below.refl _ _) (fun x B W args hx => by obtain ⟨_, _, _, _, rfl, _⟩ := hx; rfl)
    (Inv w (gp + 2) lb w.heap.size gn gr key nonce) (fun s W W' row hs hg hr => by obtain ⟨A', c', hL⟩ := hs; exact ⟨A', c', hL.keep hg (fun r e => by have := hr r e; rw [Z6.out] at this; exact this)⟩) i6
    (fun x a' pre W => ∃ A1 c1 Ap np cp g, Lst w (gp + 2) lb w.heap.size gn gr key nonce (.slice A1 (2 * pre.length) c1) (pre.flatMap pair) A1 (2 * pre.length) c1 W ∧ np ≤ cp ∧ cp ≤ maxLen ∧ IntsN W .u8 S Ap np x ∧ gp + 2 ≤ g ∧ blk A1 ≠ some g ∧ Row W g 5 .u8 (List.replicate (padN np) 0) ∧
      a' = { tmps := #[.agg (arr .u8 key), .agg (arr .u8 nonce), .slice A n c, .slice A2 n2 c2, .pointer (some ⟨w.heap.size, 0, none⟩), .pointer (some ⟨gn, 0, none⟩), undef, undef, .pointer (some ⟨gr, 0, none⟩), .pointer (some ⟨lb, 0, none⟩), .slice Ap np cp, .slice (some ⟨g, 0, none⟩) (padN np) (padN np), .slice A n c, .slice A2 n2 c2, .slice (some ⟨gp, 0, none⟩) 2 2, .func (.func 41) #[] #[.pointer (some ⟨gp + 1, 0, none⟩)], .slice Ap np cp, .slice (some ⟨g, 0, none⟩) (padN np) (padN np), undef, undef, undef, undef, undef, undef, undef, undef, undef, undef, undef, undef, undef, undef, undef, undef, undef], defers := [] }) ?ib ?assign ?body ?done
  case ib =>
    rintro x a' pre W W' row ⟨A1, c1, Ap, np, cp, g, hL, h1, h2, h3, h4, h5, h6, h7⟩ hgr hr
    refine ⟨A1, c1, Ap, np, cp, g, hL.keep hgr (fun r e => by have := hr r e; rw [Z6.out] at this; exact this), h1, h2, h3.only ⟨hgr.size, fun i o _ ho hc => (hgr.block i (Array.getElem?_eq_some_iff.1 ho).1 (fun e => ?_)).trans ho⟩, h4, h5, h6.grown hgr (Held.ne_of_cells h6.2 (fun r e => (hr r e).2)), h7⟩
    obtain ⟨_, o', ho', hc'⟩ := hr i e.symm
    rw [ho] at ho'
    cases ho'
    rw [hc] at hc'
    cases hc'
  case assign =>
    rintro l pre x args W0 W K ⟨A1, c1, hL⟩ hg ⟨Ap, np, cp, g, rfl, h1, h2, h3, h4, h5⟩ hp hsz hK
    simp only [Held.zip_two, List.setIfInBounds_toArray, List.set_cons_zero, List.set_cons_succ]
    have hl' := hL.low
    gi_wp2_with fail
    exact hK _ _ (KeepsOthers.refl _) (Only.refl _ _) ⟨A1, c1, Ap, np, cp, g, hL.grow hg, h1, h2, h3, by omega, fun e => by have := (hL.lt _ e).2; omega, h5, rfl⟩
  case body =>
    rintro l pre x a' W ⟨A1, c1, Ap, np, cp, g, hL, h1, h2, h3, h4, h5, h6, rfl⟩ hp hsz
    have hx := List.IsPrefix.length_le hp
    have HPL := Lib.hid (show (pre ++ [x]).flatMap pair = pre.flatMap pair ++ [x, List.replicate (padN np) 0] by rw [List.flatMap_append, ← h3.1]; rfl)
    obtain ⟨N, hN⟩ : ∃ N, 2 * pre.length = N := ⟨_, rfl⟩
    have hN2 : N + 2 = 2 * (pre ++ [x]).length := by rw [List.length_append]; simp; omega
    rw [hN] at hL
    have hN3 : N ≤ 1000 := by simp at hx; omega
    have HN2 := Lib.hid hN2
    have cl := cell_of_one hL.cell
    have HA := Lib.hid (World.grownBy_alloc W (.cells #[.slice Ap np cp, .slice (some ⟨g, 0, none⟩) (padN np) (padN np)] 24) none)
    have LA := hL.grow HA.out
    have hvs := Lib.hid ((Vals.new W 24 [.slice Ap np cp, .slice (some ⟨g, 0, none⟩) (padN np) (padN np)] (by simp [Value.oneCell'])))
    have hsh : ∀ b, ¬ S b → ¬ Tied lb A1 b := fun b hb e => by
      rw [HS.out] at hb
      rcases e with e | e
      · exact hb (.inl e)
      · exact hb (.inr (hL.lt b e).1)
    have hgt : ¬ Tied lb A1 g := fun e => by
      rcases e with e | e
      · omega
      · exact h5 e
    have pm := padN_lt np
    have tx : TextsN W (Tied lb A1) [.slice Ap np cp] [x] := TextsN.one (h3.shift (fun b hb _ => hsh b hb)) h1 h2
    have tz : TextsN W (Tied lb A1) [.slice (some ⟨g, 0, none⟩) (padN np) (padN np)] [List.replicate (padN np) 0] := TextsN.one (by
      have := IntsN.row h6 hgt
      rwa [List.length_replicate] at this) (Nat.le_refl _) (by unfold maxLen; omega)
    have HT2 := Lib.hid ((tx.append tz).only (Only.of_grown HA.out (fun r e => by cases e)))
    clear tx tz h3 h6 hx hp hN hN2 hsh
    simp only []
    gi_wp2_with (first
      | (refine wpListIn_append_list LA rfl _ _ rfl rfl hN3 (W.heap.size + 1) (some ⟨W.heap.size, 0, none⟩) 2 2 _ rfl hvs.out (by omega) HT2.out ?_; intro A3 c3 w7 L7 G7)
      | (refine Held.wpListIn_store_box (w := w7) rfl 49 _ _ rfl lb rfl 49 _ (.slice A3 (N + 2) c3) rfl L7.cell size_list rfl rfl ?_; intro w8 l8 g8))
    have L8 := L7.store l8 g8
    refine ⟨((KeepsOthers.of_grownBy HA.out (fun j o e => by cases e)).trans (KeepsOthers.of_grownBy G7 (fun j o e ho => LA.cells j o e ho))).trans (Held.others_of_grown L7.cell g8),
      ((Only.of_grown HA.out (fun r e => by cases e)).trans (Only.of_grown G7 (fun r e => by rw [HS.out]; exact .inr (LA.lt r e).1))).trans (Only.of_grown g8 (fun r e => by cases e; rw [HS.out]; exact .inl rfl)), A3, c3, ?_⟩
    rw [← HN2.out, HPL.out]
    exact L8
  case done =>
    rintro D W hD ⟨A1, c1, hL⟩ hDl
    have hL : Lst w (gp + 2) lb w.heap.size gn gr key nonce (.slice A1 4 c1) (pair xs ++ pair ys) A1 4 c1 W := hL
    have HX8 := Lib.hid (digits_length 8 (n : Int))
    have HY8 := Lib.hid (digits_length 8 (n2 : Int))
    have HFL := Lib.hid (show ((pair xs ++ pair ys) ++ ([digits (n : Int) 8] ++ [digits (n2 : Int) 8])).flatten = text xs ys by simp [pair, text, padL, HXL.out, HYL.out])
    have HLE := Lib.hid (show (text xs ys).length ≤ 1099511627776 by have := text_length xs ys; have := HXL.out; have := HYL.out; omega)
    have HBT := Lib.hid (text_bytes HBX.out HBY.out)
    gi_wp2_with fail
    refine wpIn_mono (Q := fun e a' W5 => e = .normal ∧ ∃ A4 c4 v23 v24 v25 v26 v27 v28 v29, Lst w (gp + 2) lb w.heap.size gn gr key nonce (.slice A4 (4 + 2) c4) ((pair xs ++ pair ys) ++ ([digits (n : Int) 8] ++ [digits (n2 : Int) 8])) A4 (4 + 2) c4 W5 ∧ KeepsOthers W W5 ∧ a' = { tmps := #[.agg (arr .u8 key), .agg (arr .u8 nonce), .slice A n c, .slice A2 n2 c2, .pointer (some ⟨w.heap.size, 0, none⟩), .pointer (some ⟨gn, 0, none⟩), undef, undef, .pointer (some ⟨gr, 0, none⟩), .pointer (some ⟨lb, 0, none⟩), undef, undef, .slice A n c, .slice A2 n2 c2, .slice (some ⟨gp, 0, none⟩) 2 2, .func (.func 41) #[] #[.pointer (some ⟨gp + 1, 0, none⟩)], undef, undef, undef, undef, undef, undef, undef, v23, v24, v25, v26, v27, v28, v29, undef, undef, undef, undef, undef], defers := [{ target := .collected D, args := #[] }] }) ?r6 ?rest
    case r6 =>
      refine Held.wpIn_region_heldR (r := none) (S := fun _ => True) rfl (by kernel_rfl) (by kernel_rfl) (fun a w h => by cases h.1) ?_
      change wpAnyH _ _ _ _ _ _ _ _ W.drew
      refine Held.take (v := .slice A n c) 1 (some 24) rfl rfl (by kernel_rfl) (by kernel_rfl) (by kernel_rfl) (fun _ _ _ h => by cases h.1) rfl (Held.y_move rfl rfl) trivial ?_
      simp only [Act.put, List.setIfInBounds_toArray, List.set_cons_zero, List.set_cons_succ]
      refine Held.take (v := .slice A2 n2 c2) 3 (some 26) rfl rfl (by kernel_rfl) (by kernel_rfl) (by kernel_rfl) (fun _ _ _ h => by cases h.1) rfl (Held.y_move rfl rfl) trivial ?_
      simp only [Act.put, List.setIfInBounds_toArray, List.set_cons_zero, List.set_cons_succ]
      have L0 := hL.grow (grown_of_below (below_drewN (Below.refl W.heap.size W) 1) none)
      have kk0 : KeepsOthers W W.drew := KeepsOthers.drew W
      change Lst _ _ _ _ _ _ _ _ _ _ _ _ _ W.drew at L0
      refine Held.two 0 2 (by kernel_rfl) ?_ ?_
      · refine Held.op_load 0 (some 23) 49 ⟨lb, 0, none⟩ (.slice A1 4 c1) rfl rfl rfl rfl rfl (Held.run_loadVar_cell _ _ _ _ (by kernel_rfl) (cell_of_one L0.cell)) ?_
        refine ⟨trivial, ?_⟩
        simp only [Act.put, List.setIfInBounds_toArray, List.set_cons_zero, List.set_cons_succ]
        refine Held.one 2 (by kernel_rfl) ?_
        refine Held.op_call 2 (some 25) 29 #[.slice A n c] rfl rfl rfl rfl (enters_of Tryd.func29 (by kernel_rfl) rfl) (by simp [Act.eval]) (length_any _ _ _ W.drew (by omega)) ?_
        rintro e w1 ⟨gX, rfl, hgX, rX, b1⟩
        have L1 := L0.grow (grown_of_below b1 none)
        have kk1 := kk0.trans (KeepsOthers.of_grownBy (grown_of_below b1 none) (fun j o e => by cases e))
        have hfX : ¬ Tied lb A1 gX := fun e => e.elim (fun e => by have := L0.low; have := L0.ord; omega) (fun e => by have := (L0.lt _ e).2; omega)
        refine ⟨_, rfl, trivial, ?_⟩
        simp only [Act.put, List.setIfInBounds_toArray, List.set_cons_zero, List.set_cons_succ]
        refine Held.one 4 (by kernel_rfl) ?_
        refine Held.op_call 4 (some 27) 29 #[.slice A2 n2 c2] rfl rfl rfl rfl (enters_of Tryd.func29 (by kernel_rfl) rfl) (by simp [Act.eval]) (length_any _ _ _ w1 (by omega)) ?_
        rintro e w2 ⟨gY, rfl, hgY, rY, b2⟩
        have L2 := L1.grow (grown_of_below b2 none)
        have kk2 := kk1.trans (KeepsOthers.of_grownBy (grown_of_below b2 none) (fun j o e => by cases e))
        have rX := rX.below b2 rX.lt
        have hfY : ¬ Tied lb A1 gY := fun e => e.elim (fun e => by have := L1.low; have := L1.ord; omega) (fun e => by have := (L1.lt _ e).2; omega)
        refine ⟨_, rfl, trivial, ?_⟩
        simp only [Act.put, List.setIfInBounds_toArray, List.set_cons_zero, List.set_cons_succ]
        refine Held.one 5 (by kernel_rfl) ?_
        refine Held.op_build 5 (some 28) 49 24 2 (.slice none 0 0) 24 [.slice (some ⟨gX, 0, none⟩) 8 8, .slice (some ⟨gY, 0, none⟩) 8 8] rfl rfl rfl rfl Tryd.underlying49 info_bytes (by simp [Act.eval]) (by simp [Value.cells]) (by simp [Value.oneCell']) rfl (by omega) (by omega) ?_
        intro p w3 v3 b3
        have L3 := L2.grow (grown_of_below b3 none)
        have kk3 := kk2.trans (KeepsOthers.of_grownBy (grown_of_below b3 none) (fun j o e => by cases e))
        have rX := rX.below b3 rX.lt
        have rY := rY.below b3 rY.lt
        refine ⟨trivial, ?_⟩
        simp only [Act.put, List.setIfInBounds_toArray, List.set_cons_zero, List.set_cons_succ]
        have tX := TextsN.one (ints_of rX HX8.out hfX) (Nat.le_refl 8) (by simp [maxLen])
        have tY := TextsN.one (ints_of rY HY8.out hfY) (Nat.le_refl 8) (by simp [maxLen])
        refine Held.one 6 (by kernel_rfl) ?_
        refine op_append_list L3 6 (some 29) rfl rfl rfl rfl rfl (by omega) w3.heap.size (some ⟨p, 0, none⟩) 2 2 _ rfl v3 (by omega) (tX.append tY) ?_
        intro A4 c4 w4 L4 g4
        have kk4 := kk3.trans (KeepsOthers.of_grownBy g4 (fun j o e ho => L3.cells j o e ho))
        refine ⟨trivial, ?_⟩
        simp only [Act.put, List.setIfInBounds_toArray, List.set_cons_zero, List.set_cons_succ]
        refine Held.one 7 (by kernel_rfl) ?_
        refine Held.op_store_box 7 none 49 lb 49 _ (.slice A4 (4 + 2) c4) rfl rfl rfl rfl rfl rfl L4.cell size_list rfl rfl ?_
        intro w5 l5 g5
        have L5 := L4.store l5 g5
        have kk5 := kk4.trans (Held.others_of_grown L4.cell g5)
        refine ⟨trivial, ?_⟩
        simp only [Act.put]
        refine wpAnyH_done (by kernel_rfl) ?_ _
        exact ⟨rfl, A4, c4, _, _, _, _, _, _, _, L5, kk5, rfl⟩
      · refine Held.op_call 2 (some 25) 29 #[.slice A n c] rfl rfl rfl rfl (enters_of Tryd.func29 (by kernel_rfl) rfl) (by simp [Act.eval]) (length_any _ _ _ W.drew (by omega)) ?_
        rintro e w1 ⟨gX, rfl, hgX, rX, b1⟩
        have L1 := L0.grow (grown_of_below b1 none)
        have kk1 := kk0.trans (KeepsOthers.of_grownBy (grown_of_below b1 none) (fun j o e => by cases e))
        have hfX : ¬ Tied lb A1 gX := fun e => e.elim (fun e => by have := L0.low; have := L0.ord; omega) (fun e => by have := (L0.lt _ e).2; omega)
        refine ⟨_, rfl, trivial, ?_⟩
        simp only [Act.put, List.setIfInBounds_toArray, List.set_cons_zero, List.set_cons_succ]
        refine Held.two 0 4 (by kernel_rfl) ?_ ?_
        · refine Held.op_load 0 (some 23) 49 ⟨lb, 0, none⟩ (.slice A1 4 c1) rfl rfl rfl rfl rfl (Held.run_loadVar_cell _ _ _ _ (by kernel_rfl) (cell_of_one L1.cell)) ?_
          refine ⟨trivial, ?_⟩
          simp only [Act.put, List.setIfInBounds_toArray, List.set_cons_zero, List.set_cons_succ]
          refine Held.one 4 (by kernel_rfl) ?_
          refine Held.op_call 4 (some 27) 29 #[.slice A2 n2 c2] rfl rfl rfl rfl (enters_of Tryd.func29 (by kernel_rfl) rfl) (by simp [Act.eval]) (length_any _ _ _ w1 (by omega)) ?_
          rintro e w2 ⟨gY, rfl, hgY, rY, b2⟩
          have L2 := L1.grow (grown_of_below b2 none)
          have kk2 := kk1.trans (KeepsOthers.of_grownBy (grown_of_below b2 none) (fun j o e => by cases e))
          have rX := rX.below b2 rX.lt
          have hfY : ¬ Tied lb A1 gY := fun e => e.elim (fun e => by have := L1.low; have := L1.ord; omega) (fun e => by have := (L1.lt _ e).2; omega)
          refine ⟨_, rfl, trivial, ?_⟩
          simp only [Act.put, List.setIfInBounds_toArray, List.set_cons_zero, List.set_cons_succ]
          refine Held.one 5 (by kernel_rfl) ?_
          refine Held.op_build 5 (some 28) 49 24 2 (.slice none 0 0) 24 [.slice (some ⟨gX, 0, none⟩) 8 8, .slice (some ⟨gY, 0, none⟩) 8 8] rfl rfl rfl rfl Tryd.underlying49 info_bytes (by simp [Act.eval]) (by simp [Value.cells]) (by simp [Value.oneCell']) rfl (by omega) (by omega) ?_
          intro p w3 v3 b3
          have L3 := L2.grow (grown_of_below b3 none)
          have kk3 := kk2.trans (KeepsOthers.of_grownBy (grown_of_below b3 none) (fun j o e => by cases e))
          have rX := rX.below b3 rX.lt
          have rY := rY.below b3 rY.lt
          refine ⟨trivial, ?_⟩
          simp only [Act.put, List.setIfInBounds_toArray, List.set_cons_zero, List.set_cons_succ]
          have tX := TextsN.one (ints_of rX HX8.out hfX) (Nat.le_refl 8) (by simp [maxLen])
          have tY := TextsN.one (ints_of rY HY8.out hfY) (Nat.le_refl 8) (by simp [maxLen])
          refine Held.one 6 (by kernel_rfl) ?_
          refine op_append_list L3 6 (some 29) rfl rfl rfl rfl rfl (by omega) w3.heap.size (some ⟨p, 0, none⟩) 2 2 _ rfl v3 (by omega) (tX.append tY) ?_
          intro A4 c4 w4 L4 g4
          have kk4 := kk3.trans (KeepsOthers.of_grownBy g4 (fun j o e ho => L3.cells j o e ho))
          refine ⟨trivial, ?_⟩
          simp only [Act.put, List.setIfInBounds_toArray, List.set_cons_zero, List.set_cons_succ]
          refine Held.one 7 (by kernel_rfl) ?_
          refine Held.op_store_box 7 none 49 lb 49 _ (.slice A4 (4 + 2) c4) rfl rfl rfl rfl rfl rfl L4.cell size_list rfl rfl ?_
          intro w5 l5 g5
          have L5 := L4.store l5 g5
          have kk5 := kk4.trans (Held.others_of_grown L4.cell g5)
          refine ⟨trivial, ?_⟩
          simp only [Act.put]
          refine wpAnyH_done (by kernel_rfl) ?_ _
          exact ⟨rfl, A4, c4, _, _, _, _, _, _, _, L5, kk5, rfl⟩
        · refine Held.op_call 4 (some 27) 29 #[.slice A2 n2 c2] rfl rfl rfl rfl (enters_of Tryd.func29 (by kernel_rfl) rfl) (by simp [Act.eval]) (length_any _ _ _ w1 (by omega)) ?_
          rintro e w2 ⟨gY, rfl, hgY, rY, b2⟩
          have L2 := L1.grow (grown_of_below b2 none)
          have kk2 := kk1.trans (KeepsOthers.of_grownBy (grown_of_below b2 none) (fun j o e => by cases e))
          have rX := rX.below b2 rX.lt
          have hfY : ¬ Tied lb A1 gY := fun e => e.elim (fun e => by have := L1.low; have := L1.ord; omega) (fun e => by have := (L1.lt _ e).2; omega)
          refine ⟨_, rfl, trivial, ?_⟩
          simp only [Act.put, List.setIfInBounds_toArray, List.set_cons_zero, List.set_cons_succ]
          refine Held.two 0 5 (by kernel_rfl) ?_ ?_
          · refine Held.op_load 0 (some 23) 49 ⟨lb, 0, none⟩ (.slice A1 4 c1) rfl rfl rfl rfl rfl (Held.run_loadVar_cell _ _ _ _ (by kernel_rfl) (cell_of_one L2.cell)) ?_
            refine ⟨trivial, ?_⟩
            simp only [Act.put, List.setIfInBounds_toArray, List.set_cons_zero, List.set_cons_succ]
            refine Held.one 5 (by kernel_rfl) ?_
            refine Held.op_build 5 (some 28) 49 24 2 (.slice none 0 0) 24 [.slice (some ⟨gX, 0, none⟩) 8 8, .slice (some ⟨gY, 0, none⟩) 8 8] rfl rfl rfl rfl Tryd.underlying49 info_bytes (by simp [Act.eval]) (by simp [Value.cells]) (by simp [Value.oneCell']) rfl (by omega) (by omega) ?_
            intro p w3 v3 b3
            have L3 := L2.grow (grown_of_below b3 none)
            have kk3 := kk2.trans (KeepsOthers.of_grownBy (grown_of_below b3 none) (fun j o e => by cases e))
            have rX := rX.below b3 rX.lt
            have rY := rY.below b3 rY.lt
            refine ⟨trivial, ?_⟩
            simp only [Act.put, List.setIfInBounds_toArray, List.set_cons_zero, List.set_cons_succ]
            have tX := TextsN.one (ints_of rX HX8.out hfX) (Nat.le_refl 8) (by simp [maxLen])
            have tY := TextsN.one (ints_of rY HY8.out hfY) (Nat.le_refl 8) (by simp [maxLen])
            refine Held.one 6 (by kernel_rfl) ?_
            refine op_append_list L3 6 (some 29) rfl rfl rfl rfl rfl (by omega) w3.heap.size (some ⟨p, 0, none⟩) 2 2 _ rfl v3 (by omega) (tX.append tY) ?_
            intro A4 c4 w4 L4 g4
            have kk4 := kk3.trans (KeepsOthers.of_grownBy g4 (fun j o e ho => L3.cells j o e ho))
            refine ⟨trivial, ?_⟩
            simp only [Act.put, List.setIfInBounds_toArray, List.set_cons_zero, List.set_cons_succ]
            refine Held.one 7 (by kernel_rfl) ?_
            refine Held.op_store_box 7 none 49 lb 49 _ (.slice A4 (4 + 2) c4) rfl rfl rfl rfl rfl rfl L4.cell size_list rfl rfl ?_
            intro w5 l5 g5
            have L5 := L4.store l5 g5
            have kk5 := kk4.trans (Held.others_of_grown L4.cell g5)
            refine ⟨trivial, ?_⟩
            simp only [Act.put]
            refine wpAnyH_done (by kernel_rfl) ?_ _
            exact ⟨rfl, A4, c4, _, _, _, _, _, _, _, L5, kk5, rfl⟩
          · refine Held.op_build 5 (some 28) 49 24 2 (.slice none 0 0) 24 [.slice (some ⟨gX, 0, none⟩) 8 8, .slice (some ⟨gY, 0, none⟩) 8 8] rfl rfl rfl rfl Tryd.underlying49 info_bytes (by simp [Act.eval]) (by simp [Value.cells]) (by simp [Value.oneCell']) rfl (by omega) (by omega) ?_
            intro p w3 v3 b3
            have L3 := L2.grow (grown_of_below b3 none)
            have kk3 := kk2.trans (KeepsOthers.of_grownBy (grown_of_below b3 none) (fun j o e => by cases e))
            have rX := rX.below b3 rX.lt
            have rY := rY.below b3 rY.lt
            refine ⟨trivial, ?_⟩
            simp only [Act.put, List.setIfInBounds_toArray, List.set_cons_zero, List.set_cons_succ]
            refine Held.one 0 (by kernel_rfl) ?_
            refine Held.op_load 0 (some 23) 49 ⟨lb, 0, none⟩ (.slice A1 4 c1) rfl rfl rfl rfl rfl (Held.run_loadVar_cell _ _ _ _ (by kernel_rfl) (cell_of_one L3.cell)) ?_
            refine ⟨trivial, ?_⟩
            simp only [Act.put, List.setIfInBounds_toArray, List.set_cons_zero, List.set_cons_succ]
            have tX := TextsN.one (ints_of rX HX8.out hfX) (Nat.le_refl 8) (by simp [maxLen])
            have tY := TextsN.one (ints_of rY HY8.out hfY) (Nat.le_refl 8) (by simp [maxLen])
            refine Held.one 6 (by kernel_rfl) ?_
            refine op_append_list L3 6 (some 29) rfl rfl rfl rfl rfl (by omega) w3.heap.size (some ⟨p, 0, none⟩) 2 2 _ rfl v3 (by omega) (tX.append tY) ?_
            intro A4 c4 w4 L4 g4
            have kk4 := kk3.trans (KeepsOthers.of_grownBy g4 (fun j o e ho => L3.cells j o e ho))
            refine ⟨trivial, ?_⟩
            simp only [Act.put, List.setIfInBounds_toArray, List.set_cons_zero, List.set_cons_succ]
            refine Held.one 7 (by kernel_rfl) ?_
            refine Held.op_store_box 7 none 49 lb 49 _ (.slice A4 (4 + 2) c4) rfl rfl rfl rfl rfl rfl L4.cell size_list rfl rfl ?_
            intro w5 l5 g5
            have L5 := L4.store l5 g5
            have kk5 := kk4.trans (Held.others_of_grown L4.cell g5)
            refine ⟨trivial, ?_⟩
            simp only [Act.put]
            refine wpAnyH_done (by kernel_rfl) ?_ _
            exact ⟨rfl, A4, c4, _, _, _, _, _, _, _, L5, kk5, rfl⟩
    case rest =>
      rintro e a' W5 ⟨rfl, A4, c4, v23, v24, v25, v26, v27, v28, v29, M0', kk5, rfl⟩
      have dl5 := kk5.same _ _ hDl rfl
      have M0 := M0'.grow (grown_of_below (below_drewN (Below.refl W5.heap.size W5) 1) none)
      change Lst _ _ _ _ _ _ _ _ _ _ _ _ _ W5.drew at M0
      clear hL kk5 hDl M0'
      gi_wp2_with fail
      refine wpIn_mono (Q := fun e a' W8 => e = .normal ∧ ∃ v30 v31 v32 v33 v34, Row W8 gr 41 .u8 (aeTag key nonce xs ys) ∧ KeepsOthers W5 W8 ∧ Below w.heap.size w W8 ∧ a' = { tmps := #[.agg (arr .u8 key), .agg (arr .u8 nonce), .slice A n c, .slice A2 n2 c2, .pointer (some ⟨w.heap.size, 0, none⟩), .pointer (some ⟨gn, 0, none⟩), undef, undef, .pointer (some ⟨gr, 0, none⟩), .pointer (some ⟨lb, 0, none⟩), undef, undef, .slice A n c, .slice A2 n2 c2, .slice (some ⟨gp, 0, none⟩) 2 2, .func (.func 41) #[] #[.pointer (some ⟨gp + 1, 0, none⟩)], undef, undef, undef, undef, undef, undef, undef, v23, v24, v25, v26, v27, v28, v29, v30, v31, v32, v33, v34], defers := [{ target := .collected D, args := #[] }] }) ?r7 ?rest7
      case r7 =>
        refine Held.wpIn_region_heldR (r := none) (S := fun X => Row X w.heap.size 22 .u8 key ∧ Row X gn 23 .u8 nonce ∧ X.heap[lb]? = some (.cells #[.slice A4 (4 + 2) c4] 49 (0, 0))) rfl (by kernel_rfl) (by kernel_rfl) (fun a w h => by cases h.1) ?_
        change wpAnyH _ _ _ _ _ _ _ _ W5.drew
        have S0 : Row W5.drew w.heap.size 22 .u8 key ∧ Row W5.drew gn 23 .u8 nonce ∧ W5.drew.heap[lb]? = some (.cells #[.slice A4 (4 + 2) c4] 49 (0, 0)) := ⟨M0.rk, M0.rn, M0.cell⟩
        refine Held.take (v := .agg (arr .u8 key)) 0 (some 30) rfl rfl (by kernel_rfl) (by kernel_rfl) (by kernel_rfl) (fun _ _ _ h => by cases h.1) rfl (Held.y_load_Row (zs := key) rfl rfl Tryd.underlying22 size_32b HK.out (fun X hX => hX.1)) S0 ?_
        simp only [Act.put, List.setIfInBounds_toArray, List.set_cons_zero, List.set_cons_succ]
        refine Held.take (v := .agg (arr .u8 nonce)) 1 (some 31) rfl rfl (by kernel_rfl) (by kernel_rfl) (by kernel_rfl) (fun _ _ _ h => by cases h.1) rfl (Held.y_load_Row (zs := nonce) rfl rfl Tryd.underlying23 size_12b HN.out (fun X hX => hX.2.1)) S0 ?_
        simp only [Act.put, List.setIfInBounds_toArray, List.set_cons_zero, List.set_cons_succ]
        refine Held.take (v := .slice A4 (4 + 2) c4) 3 (some 33) rfl rfl (by kernel_rfl) (by kernel_rfl) (by kernel_rfl) (fun _ _ _ h => by cases h.1) rfl (Held.y_load rfl rfl (by kernel_rfl) (fun X hX => cell_of_one hX.2.2)) S0 ?_
        simp only [Act.put, List.setIfInBounds_toArray, List.set_cons_zero, List.set_cons_succ]
        refine Held.one 2 (by kernel_rfl) ?_
        refine Held.op_call 2 (some 32) 31 #[.agg (arr .u8 key), .agg (arr .u8 nonce)] rfl rfl rfl rfl (enters_of Tryd.func31 (by kernel_rfl) rfl) (by simp [Act.eval]) (once_any key nonce W5.drew HK.out hkb HN.out hnb (hT.below M0.below hT.lt)) ?_
        rintro e w6 ⟨rfl, b6⟩
        have M6 := M0.grow (grown_of_below b6 none)
        refine ⟨_, rfl, ⟨M6.rk, M6.rn, M6.cell⟩, ?_⟩
        simp only [Act.put, List.setIfInBounds_toArray, List.set_cons_zero, List.set_cons_succ]
        obtain ⟨vs, ow6, tx6⟩ := M6.own
        have vx := ownsRow_vals ow6 tx6.texts.one_cell
        refine Held.one 4 (by kernel_rfl) ?_
        refine Held.op_call 4 (some 34) 30 #[.agg (arr .u8 (macKey key nonce)), .slice A4 (4 + 2) c4] rfl rfl rfl rfl (enters_of Tryd.func30 (by kernel_rfl) rfl) (by simp [Act.eval]) (Po.tag_any (macKey key nonce) w6.heap.size A4 (4 + 2) c4 vs _ w6 (macKey_length _ _) (macKey_bytes _ _) vx tx6.texts (Nat.le_refl _) (by omega) (by rw [HFL.out]; exact HLE.out) (by rw [HFL.out]; exact HBT.out) (hP.below M6.below hP.lt)) ?_
        rw [HFL.out]
        rintro e w7 ⟨rfl, b7⟩
        have M7 := M6.grow (grown_of_below b7 none)
        refine ⟨_, rfl, ⟨M7.rk, M7.rn, M7.cell⟩, ?_⟩
        simp only [Act.put, List.setIfInBounds_toArray, List.set_cons_zero, List.set_cons_succ]
        refine Held.one 5 (by kernel_rfl) ?_
        refine Held.op_store_RowL 5 none 41 gr 41 .u8 _ (aeTag key nonce xs ys) rfl rfl rfl rfl rfl rfl M7.rr 16 info_16b (aeTag_length _ _ _ _) (by simp) (bs_wf (aeTag_bytes _ _ _ _)) ?_
        intro w8 r8 g8
        have hKn := M7.ord
        refine ⟨⟨M7.rk.grown g8 (by intro e; injection e with e; have := HG1.out; omega), M7.rn.grown g8 (by intro e; injection e with e; have := HG2.out; omega), (g8.block lb (Array.getElem?_eq_some_iff.1 M7.cell).1 (by intro e; injection e with e; omega)).trans M7.cell⟩, ?_⟩
        simp only [Act.put]
        refine wpAnyH_done (by kernel_rfl) ?_ _
        refine ⟨rfl, _, _, _, _, _, r8, ?_, ?_, rfl⟩
        · exact ((((show KeepsOthers W5 W5.drew from KeepsOthers.drew W5).trans (KeepsOthers.of_grownBy (grown_of_below b6 none) (fun j o e => by cases e))).trans (KeepsOthers.of_grownBy (grown_of_below b7 none) (fun j o e => by cases e))).trans (Held.others_of_grown M7.rr.2 g8))
        · exact M7.below.grown g8 M7.below.size (fun r e => by cases e; omega)
      case rest7 =>
        rintro e a' W8 ⟨rfl, v30, v31, v32, v33, v34, r8, kk8, b8, rfl⟩
        have dl8 := kk8.same _ _ dl5 rfl
        gi_wp2_with fail
        refine ⟨by simp, .inl ⟨_, _, rfl, run_takeDeferred dl8, ?_⟩⟩
        have hDr : gr ≠ D := by have := Z6.out; omega
        have r9 : Row (W8.putObj D (.deferred none)) gr 41 .u8 (aeTag key nonce xs ys) := ⟨r8.1, (World.putObj_heap_other hDr).trans r8.2⟩
        refine ⟨.agg (arr .u8 (aeTag key nonce xs ys)), results_Row rfl _ _ gr _ _ _ rfl r9 16 5 Tryd.underlying41 info_16b (aeTag_length _ _ _ _), rfl, ?_⟩
        exact b8.grown (grownBy_putObj' _ D _) b8.size (fun r e => by have := Z6.out; cases e; omega)
end Go.Proofs.YtebcejncjljmhaaDoor.Ae
namespace Go.Proofs.YtebcejncjljmhaaDoor.Cha
open Go.RowKit Go.Shelf Go.Proofs.YtebcejncjljmhaaDoor.Mem Go.Proofs.YtebcejncjljmhaaDoor.Help Go.Proofs.YtebcejncjljmhaaDoor.Sum Go.Proofs.YtebcejncjljmhaaDoor.Cc Go.Proofs.YtebcejncjljmhaaDoor.Sha Go.Proofs.YtebcejncjljmhaaDoor.Range Go.Proofs.YtebcejncjljmhaaDoor
set_option linter.unusedVariables false
attribute [local go_sem] Oper.semAt_some
attribute [local irreducible] wpList wpListIn

theorem info_k32 : (Tryd.prog.info? 22).map (·.size) = some 32 := by kernel_rfl
theorem info_n12 : (Tryd.prog.info? 23).map (·.size) = some 12 := by kernel_rfl

theorem blocks_any (key nonce : List Int) (ctr : Int) (w : World) (hkb : Bs key) (hnb : Bs nonce) :
    Calls Tryd.prog 27 #[.agg (arr .u8 key), .agg (arr .u8 nonce), .int .u32 ctr] w fun e w' => ∃ xk xn xc, e = .returned (.func (.func 39) #[] #[.pointer (some ⟨xc, 0, none⟩), .pointer (some ⟨xk, 0, none⟩), .pointer (some ⟨xn, 0, none⟩)]) ∧
      Row w' xk 22 .u8 key ∧ Row w' xn 23 .u8 nonce ∧ w'.heap[xc]? = some (.cells #[.int .u32 ctr] 40 (0, 0)) ∧ w.heap.size ≤ xk ∧ w.heap.size ≤ xn ∧ w.heap.size ≤ xc ∧ Below w.heap.size w w' := by
  go_enter Tryd.func27, Tryd.ntmps27
  go_wp2_with (first
    | (refine wpList_box_Row (w := w) rfl 22 _ rfl .u8 key rfl (bs_wf hkb) ?_; intro w1 r1 g1 z1)
    | (refine wpList_box_Row (w := w1) rfl 23 _ rfl .u8 nonce rfl (bs_wf hnb) ?_; intro w2 r2 g2 z2)
    | (refine Held.wpList_box_cell (w := w2) rfl 40 _ rfl (.int .u32 ctr) rfl rfl ?_; intro w3 h3 g3 z3))
  go_ret
  have s1 := g1.size
  have s2 := g2.size
  exact ⟨_, _, _, rfl, (r1.grown g2 (by simp)).grown g3 (by simp), r2.grown g3 (by simp), h3, Nat.le_refl _, by omega, by omega, (((Below.refl _ w).grown g1 (Nat.le_refl _) (by simp)).grown g2 (by omega) (by simp)).grown g3 (by omega) (by simp)⟩

theorem addI_succ (c : Int) (k : Nat) : addI (addI c (k : Int)) 1 = addI c ((k + 1 : Nat) : Int) := by unfold addI; omega

set_option maxRecDepth 100000 in
set_option maxHeartbeats 8000000 in
theorem blocks_stop (n xk xn xc : Nat) (S : Nat → Prop) (key nonce : List Int) (ctr : Int) (w : World) (h1 : Row w xk 22 .u8 key) (h2 : Row w xn 23 .u8 nonce) (h3 : w.cell? ⟨xc, 0, none⟩ = some (.int .u32 ctr)) (hS1 : ¬ S xk) (hS2 : ¬ S xn) (hS3 : ¬ S xc)
    (hk : key.length = 32) (hkb : Bs key) (hn : nonce.length = 12) (hnb : Bs nonce) (hc : R32 ctr) (ht0 : Tab w 1 sigma) (hg0 : ¬ S 1) :
    SeqStop Fence.wide n Tryd.prog 39 #[.pointer (some ⟨xc, 0, none⟩), .pointer (some ⟨xk, 0, none⟩), .pointer (some ⟨xn, 0, none⟩)] (fun x => #[.agg (arr .u8 x)]) (Only S) (fun k => some (Cc.block key (addI ctr ((k : Nat) : Int)) nonce)) w := by
  intro l J Jx N W hW hJ hJx hN hY h0
  have k1 := h1.below hW h1.lt
  have k2 := h2.below hW h2.lt
  have k3 := (hW.cell (p := ⟨xc, 0, none⟩) (World.block_lt_of_cell? w _ h3)).trans h3
  have u0 := ht0.below hW ht0.lt
  have HK := Lib.hid hk
  have HN := Lib.hid hn
  have hc0 : addI ctr ((0 : Nat) : Int) = ctr := by unfold R32 at hc; unfold addI; omega
  clear h1 h2 h3 ht0 hW hk hn
  refine callsIn_of_wp Tryd.func39 rfl trivial ?_ rfl
  simp only [Tryd.ntmps39, List.size_toArray, List.length_cons, List.length_nil, Nat.reduceAdd, Nat.reduceSub, Array.replicate_succ, Array.replicate_zero, List.push_toArray, List.append_toArray, List.nil_append, List.cons_append]
  gi_wp2_with fail
  gi_loopw [5] (fun v wr => ∃ k : Nat, v = .int .u32 (addI ctr (k : Int)) ∧ J k wr ∧ Only S W wr) (fun v wr => leastOf fun m => ∃ k : Nat, m = N - k ∧ v = .int .u32 (addI ctr (k : Int)) ∧ J k wr ∧ Only S W wr)
  case atStart => exact ⟨0, by rw [hc0], h0, Only.refl _ _⟩
  case round =>
    obtain ⟨k, hm, rfl, Jk, ok⟩ := (leastOf_spec (p := fun m => ∃ k : Nat, m = N - k ∧ u5 = .int .u32 (addI ctr (k : Int)) ∧ J k wr ∧ Only S W wr) (by obtain ⟨k, h⟩ := hrel; exact ⟨_, k, rfl, h⟩)).1
    have HM := Lib.hid hm
    clear hrel hm
    have q1 := ok.row hS1 k1
    have q2 := ok.row hS2 k2
    have hT := u0.only ok hg0
    gi_wp2_with (first
      | (refine wpListIn_load_Row (w := wr) rfl 22 _ rfl xk rfl 22 .u8 _ q1 32 5 Tryd.underlying22 info_k32 HK.out ?_)
      | (refine wpListIn_load_Row (w := wr) rfl 23 _ rfl xn rfl 23 .u8 _ q2 12 5 Tryd.underlying23 info_n12 HN.out ?_))
    refine ⟨trivial, fun h => (by cases h), ?_⟩
    refine (callsIn_wide.2 (block_any key nonce (addI ctr (k : Int)) wr HK.out hkb HN.out hnb (r32_add _ _) hT)).mono ?_
    rintro e W3 ⟨rfl, b3⟩
    have J3 := hJ k wr W3 none Jk (grown_of_below b3 none) (fun r e => by cases e)
    have o3 : Only S wr W3 := Only.of_below b3
    obtain ⟨fn, tmps, assign, body, hy, hR⟩ := hY k _ W3 J3 rfl
    gi_wp2_with fail
    refine ⟨fun h => (by cases h), ?_⟩
    refine hR.mono ?_
    rintro e W4 (⟨rfl, J4, o4⟩ | ⟨rfl, Jx4⟩)
    · have hw5 : (addI ctr (k : Int) + 1) % 4294967296 = addI ctr ((k + 1 : Nat) : Int) := addI_succ ctr k
      have o5 := (ok.trans o3).trans o4
      have hkN := hN k wr Jk
      have HL := Lib.hid ((leastOf_spec (p := fun m => ∃ k' : Nat, m = N - k' ∧ Value.int .u32 (addI ctr ((k + 1 : Nat) : Int)) = .int .u32 (addI ctr (k' : Int)) ∧ J k' W4 ∧ Only S W W4) ⟨_, k + 1, rfl, rfl, J4, o5⟩).2 (N - (k + 1)) ⟨k + 1, rfl, rfl, J4, o5⟩)
      gi_wp2_with fail
      go_roundw
      case rel => exact ⟨k + 1, by first | rfl | rw [hw5], J4, o5⟩
      case measure =>
        rw [hw5]
        exact Nat.lt_of_le_of_lt HL.out (by rw [HM.out]; omega)
    · gi_wp2_with fail
      go_end0
      exact ⟨⟨_, rfl⟩, .inr ⟨_, Jx4⟩⟩
end Go.Proofs.YtebcejncjljmhaaDoor.Cha
namespace Go.Proofs.YtebcejncjljmhaaDoor.Cha
open Go.RowKit Go.Shelf Go.Proofs.YtebcejncjljmhaaDoor.Mem Go.Proofs.YtebcejncjljmhaaDoor.Help Go.Proofs.YtebcejncjljmhaaDoor.Sum Go.Proofs.YtebcejncjljmhaaDoor.Cc Go.Proofs.YtebcejncjljmhaaDoor.Sha Go.Proofs.YtebcejncjljmhaaDoor.Range Go.Proofs.YtebcejncjljmhaaDoor
set_option linter.unusedVariables false
attribute [local go_sem] Oper.semAt_some
attribute [local irreducible] wpList wpListIn

theorem xors_wf (key nonce : List Int) (ctr : Int) {bs : List Int} (h : Bs bs) : ∀ z ∈ xors key nonce ctr bs, (Lit.int .u8 z).wf = true := bs_wf (xors_bytes key nonce ctr h)
theorem ints_bs {w : World} {B : Nat} {A : Option Addr} {n : Nat} {zs : List Int} (h : Ints w .u8 B A n zs) : Bs zs := fun z hz => wf_u8 (h.2.1 z hz)

/-- nothing to be turned -/
theorem xor_none (key nonce : List Int) (ctr : Int) (A : Option Addr) (c : Nat) (w : World) (hkb : Bs key) (hnb : Bs nonce) :
    Calls Tryd.prog 21 #[.agg (arr .u8 key), .agg (arr .u8 nonce), .int .u32 ctr, .slice A 0 c] w fun e w' => e = .returned (.slice none 0 0) ∧ Below w.heap.size w w' := by
  go_enter Tryd.func21, Tryd.ntmps21
  go_wp2_with (first
    | (refine wpList_box_Row (w := w) rfl 22 _ rfl .u8 key rfl (bs_wf hkb) ?_; intro w1 r1 g1 z1)
    | (refine wpList_box_Row (w := w1) rfl 23 _ rfl .u8 nonce rfl (bs_wf hnb) ?_; intro w2 r2 g2 z2)
    | (refine Held.wpList_box_cell (w := w2) rfl 24 _ rfl (.slice A 0 c) rfl rfl ?_; intro w3 h3 g3 z3; have c3 := cell_of_one h3))
  go_step3
  go_wp2_with fail
  rw [Exit.noGoto_ret]
  go_ret
  have s1 := g1.size
  have s2 := g2.size
  exact ⟨rfl, (((Below.refl _ w).grown g1 (Nat.le_refl _) (by simp)).grown g2 (by omega) (by simp)).grown g3 (by omega) (by simp)⟩

/-- what stands between two bytes: q of them are turned -/
def At (w : World) (g lb bb m : Nat) (key nonce : List Int) (ctr : Int) (bs : List Int) (A : Option Addr) (c q : Nat) (W : World) : Prop :=
  W.heap[lb]? = some (.cells #[.slice (some ⟨g, 0, none⟩) q m] 24 (0, 0)) ∧ Mem.Own W w.heap.size 5 .u8 (.slice (some ⟨g, 0, none⟩) q m) (xors key nonce ctr (bs.take q)) ∧
    W.heap[bb]? = some (.cells #[.slice A m c] 24 (0, 0)) ∧ Below w.heap.size w W
theorem At.far {w : World} {g lb bb m : Nat} {key nonce : List Int} {ctr : Int} {bs : List Int} {A : Option Addr} {c q : Nat} {B : Nat} (hw : w.heap.size < B) (hg : g < B) (hl : lb < B) (hb : bb < B) {W W' : World} {row : Option Nat}
    (h : At w g lb bb m key nonce ctr bs A c q W) (hgr : W.grownBy W' row) (hr : ∀ r, row = some r → B ≤ r) : At w g lb bb m key nonce ctr bs A c q W' := by
  have hne : ∀ i, i < B → some i ≠ row := fun i hi e => by have := hr i e.symm; omega
  obtain ⟨h1, h2, h3, h4⟩ := h
  exact ⟨Held.keep_cells h1 hgr (hne _ hl), h2.kept hgr (.inr (hne _ hg)), Held.keep_cells h3 hgr (hne _ hb), h4.grown hgr h4.size (fun r e => by have := hr r e; omega)⟩
def Inv (w : World) (g lb bb m : Nat) (key nonce : List Int) (ctr : Int) (bs : List Int) (A : Option Addr) (c k : Nat) (W : World) : Prop := 64 * k < m ∧ At w g lb bb m key nonce ctr bs A c (64 * k) W
def Done (w : World) (g lb bb m : Nat) (key nonce : List Int) (ctr : Int) (bs : List Int) (A : Option Addr) (c : Nat) (co : Code) (k : Nat) (W : World) : Prop := co = .exit 0 ∧ At w g lb bb m key nonce ctr bs A c m W
theorem Inv.far (w : World) (g lb bb m : Nat) (key nonce : List Int) (ctr : Int) (bs : List Int) (A : Option Addr) (c : Nat) {B : Nat} (hw : w.heap.size < B) (hg : g < B) (hl : lb < B) (hb : bb < B) : Far B (Inv w g lb bb m key nonce ctr bs A c) :=
  fun k W W' row h hgr hr => ⟨h.1, h.2.far hw hg hl hb hgr hr⟩
theorem Done.far (w : World) (g lb bb m : Nat) (key nonce : List Int) (ctr : Int) (bs : List Int) (A : Option Addr) (c : Nat) (co : Code) {B : Nat} (hw : w.heap.size < B) (hg : g < B) (hl : lb < B) (hb : bb < B) : Far B (Done w g lb bb m key nonce ctr bs A c co) :=
  fun k W W' row h hgr hr => ⟨h.1, h.2.far hw hg hl hb hgr hr⟩
theorem stream_block (key nonce : List Int) (ctr : Int) (k j : Nat) (hj : j < 64) : (Cc.block key (addI ctr (k : Int)) nonce).getD j 0 = streamAt key ctr nonce (64 * k + j) := by
  unfold streamAt
  rw [show (64 * k + j) / 64 = k by omega, show (64 * k + j) % 64 = j by omega]

set_option maxRecDepth 100000 in
set_option maxHeartbeats 8000000 in
theorem xor_some (key nonce : List Int) (ctr : Int) (B : Nat) (A : Option Addr) (m c : Nat) (bs : List Int) (w : World) (hi : Ints w .u8 B A m bs) (hB : B ≤ w.heap.size) (hmc : m ≤ c) (hm : m ≤ 17592186044416) (h0 : 0 < m)
    (hk : key.length = 32) (hkb : Bs key) (hn : nonce.length = 12) (hnb : Bs nonce) (hc : R32 ctr) (hT : Tab w 1 sigma) :
    Calls Tryd.prog 21 #[.agg (arr .u8 key), .agg (arr .u8 nonce), .int .u32 ctr, .slice A m c] w fun e w' => ∃ g, e = .returned (.slice (some ⟨g, 0, none⟩) m m) ∧ w.heap.size ≤ g ∧ Row w' g 5 .u8 (xors key nonce ctr bs) ∧ Below w.heap.size w w' := by
  refine (callsIn_wide (n := 3)).1 ?_
  refine callsIn_of_wp_marks Tryd.func21 rfl trivial ?_ rfl
  simp only [Tryd.ntmps21, List.size_toArray, List.length_cons, List.length_nil, Nat.reduceAdd, Nat.reduceSub, Array.replicate_succ, Array.replicate_zero, List.push_toArray, List.append_toArray, List.nil_append, List.cons_append]
  have HK := Lib.hid hk
  have HN := Lib.hid hn
  have HB := Lib.hid hi.1
  have HW := Lib.hid (xors_wf key nonce ctr (ints_bs hi))
  have HX := Lib.hid (fun q (hq : q < m) => xors_snoc key nonce ctr bs (k := q) (by rw [hi.1]; exact hq))
  have HXL' := Lib.hid (fun q (hq : q ≤ m) => show (xors key nonce ctr (bs.take q)).length = q by rw [xors_length, List.length_take, hi.1]; omega)
  have HSB := Lib.hid (fun i => stream_bound key ctr nonce i)
  have HBS := Lib.hid (ints_bs hi)
  have HST := Lib.hid (fun k j (hj : j < 64) => stream_block key nonce ctr k j hj)
  obtain ⟨b, off, rfl, hb, hcell⟩ := hi.2.2 h0
  clear hk hn hi
  obtain ⟨i0, hi0, hz0, hs0, hb0⟩ := info_parts info_u8
  have hm0 : ¬ (m : Int) = 0 := by omega
  have hm0' : ¬ m = 0 := by omega
  gi_wp2_with (first
    | (refine wpListIn_box_Row (w := w) rfl 22 _ rfl .u8 key rfl (bs_wf hkb) ?_; intro w1 r1 g1 z1)
    | (refine wpListIn_box_Row (w := w1) rfl 23 _ rfl .u8 nonce rfl (bs_wf hnb) ?_; intro w2 r2 g2 z2)
    | (refine Held.wpListIn_box_cell (w := w2) rfl 24 _ rfl (.slice (some ⟨b, off, none⟩) m c) rfl rfl ?_; intro w3 h3 g3 z3; have c3 := cell_of_one h3))
  refine wpIn_wide.2 (wp_scope_straight ?_)
  refine (wpIn_wide (n := 3)).1 ?_
  gi_wp2_with (first
    | (refine wpListIn_make_own w3 rfl _ _ 24 rfl w.heap.size 5 i0 (.int .u8 0) 1 Tryd.underlying24 hi0 hz0 hs0 .i64 .i64 _ m rfl rfl (by omega) (by rw [hb0]; omega) (by unfold maxLen; omega) (by have := g1.size; have := g2.size; have := g3.size; omega) ?_; intro w4 hown4 g4)
    | (refine Held.wpListIn_alloc_cell (w := w4) rfl 24 rfl (.slice none 0 0) (by kernel_rfl) rfl ?_; intro w5 h5 g5 z5)
    | (refine Held.wpListIn_store_box (w := w5) rfl 24 _ _ rfl w4.heap.size rfl 24 _ (.slice (some ⟨w3.heap.size, 0, none⟩) 0 m) rfl h5 (by kernel_rfl) rfl rfl ?_; intro w6 h6 g6; have l4 : w3.heap.size < w4.heap.size := (hown4.lt _ rfl).2; have s1 := g1.size; have s2 := g2.size; have s3 := g3.size; have l1 := r1.lt; have l2 := r2.lt; have r16 := ((((r1.grown g2 (by simp)).grown g3 (by simp)).grown g4 (by simp)).grown g5 (by simp)).grown g6 (by intro e; injection e with e; omega); have r26 := (((r2.grown g3 (by simp)).grown g4 (by simp)).grown g5 (by simp)).grown g6 (by intro e; injection e with e; omega))
    | (refine wpListIn_load_Row (w := w6) rfl 22 _ rfl w.heap.size rfl 22 .u8 _ r16 32 5 Tryd.underlying22 info_k32 HK.out ?_)
    | (refine wpListIn_load_Row (w := w6) rfl 23 _ rfl w1.heap.size rfl 23 .u8 _ r26 12 5 Tryd.underlying23 info_n12 HN.out ?_))
  apply wpIn_label
  gi_wp2_with (first
    | (refine wpListIn_load_Row (w := w6) rfl 22 _ rfl w.heap.size rfl 22 .u8 _ r16 32 5 Tryd.underlying22 info_k32 HK.out ?_)
    | (refine wpListIn_load_Row (w := w6) rfl 23 _ rfl w1.heap.size rfl 23 .u8 _ r26 12 5 Tryd.underlying23 info_n12 HN.out ?_))
  obtain ⟨bb, hbb⟩ : ∃ x, w2.heap.size = x := ⟨_, rfl⟩
  obtain ⟨g, hg⟩ : ∃ x, w3.heap.size = x := ⟨_, rfl⟩
  obtain ⟨lb, hlb⟩ : ∃ x, w4.heap.size = x := ⟨_, rfl⟩
  obtain ⟨nn, hnn⟩ : ∃ x, w1.heap.size = x := ⟨_, rfl⟩
  have lbb : w2.heap.size < w3.heap.size := (Array.getElem?_eq_some_iff.1 h3).1
  have l6 : w4.heap.size < w6.heap.size := (Array.getElem?_eq_some_iff.1 h6).1
  have s5 := g5.size
  have b6 : Below w.heap.size w w6 := (((((((Below.refl _ w).grown g1 (Nat.le_refl _) (by simp)).grown g2 s1 (by simp)).grown g3 (by omega) (by simp)).grown g4 (by omega) (by simp)).grown g5 (by omega) (by simp)).grown g6 (by omega) (fun r e => by cases e; omega))
  have o4 : Mem.Own w4 w.heap.size 5 .u8 (.slice (some ⟨w3.heap.size, 0, none⟩) 0 m) (xors key nonce ctr (bs.take 0)) := ⟨by simp [xors], by simpa [xors] using hown4⟩
  have o6 := (o4.kept g5 (.inr (by simp [Value.ownBlock]))).kept g6 (.inr (fun e => by have e : some w3.heap.size = some w4.heap.size := e; injection e with e; omega))
  have n6 := Held.keep_cells (Held.keep_cells (Held.keep_cells h3 g4 (by simp)) g5 (by simp)) g6 (by intro e; injection e with e; omega)
  have hcell6 : ∀ W, Below w.heap.size w W → ∀ i, i < m → W.cell? ⟨b, off + i, none⟩ = some (.int .u8 (bs.getD i 0)) := fun W hW i hi => (hW.cell (p := ⟨b, off + i, none⟩) (by show b < _; omega)).trans (hcell i hi)
  rw [hbb] at l2 lbb n6 ⊢
  rw [hnn] at l1 l2 ⊢
  rw [hg] at lbb l4 h6 o6
  rw [hlb] at l4 l6 h6
  rw [hg, hlb]
  have i6 : Inv w g lb bb m key nonce ctr bs (some ⟨b, off, none⟩) c 0 w6 := ⟨by omega, h6, o6, n6, b6⟩
  have T6 := hT.below b6 hT.lt
  have hT' := hT.lt
  clear h3 c3 hown4 g1 g2 g3 g4 g5 g6 h5 h6 o4 o6 n6 s1 s2 s3 s5 z1 z2 z3 z5 r1 r2 r16 r26 hbb hnn hg hlb hi0 hz0 hs0 hb0 hcell hm0 hm0'
  refine ⟨trivial, ?_⟩
  refine (callsIn_wide.2 (blocks_any key nonce ctr w6 hkb hnb)).mono ?_
  rintro e W6 ⟨xk, xn, xc, rfl, rk, rn, hcx, lk, ln, lc, bx⟩
  have j6 : Inv w g lb bb m key nonce ctr bs (some ⟨b, off, none⟩) c 0 W6 := Inv.far w g lb bb m key nonce ctr bs _ c (B := w6.heap.size) (by omega) (by omega) (by omega) (by omega) 0 _ _ none i6 (grown_of_below bx none) (fun r e => by cases e)
  have c6 := j6.2.2.2.2
  have T6' := hT.below c6 hT'
  have hSlt : ∀ b, b < w.heap.size → ¬ (b = g ∨ b = lb) := fun b hb e => by omega
  have hgW : w6.heap.size ≤ W6.heap.size := bx.size
  have hit := fun n => blocks_stop n xk xn xc (fun b => b = g ∨ b = lb) key nonce ctr W6 rk rn (cell_of_one hcx) (fun e => by omega) (fun e => by omega) (fun e => by omega) HK.out hkb HN.out hnb hc T6' (hSlt _ hT')
  clear rk rn hcx bx i6 b6 T6
  gi_wp2_with fail
  refine wpIn_rangeFunc_stop rfl (by omega) (gf := 39) (lb := #[.pointer (some ⟨xc, 0, none⟩), .pointer (some ⟨xk, 0, none⟩), .pointer (some ⟨xn, 0, none⟩)]) rfl trivial (enters_of Tryd.func39 (by kernel_rfl) rfl)
    (hit _) (fun h k => h.trans k) (fun W l o o' hl ho hc _ => Only.put W l o o' ho hc) (Below.refl _ _) (fun _ => rfl)
    (m + 1) (Inv w g lb bb m key nonce ctr bs (some ⟨b, off, none⟩) c) (Done w g lb bb m key nonce ctr bs (some ⟨b, off, none⟩) c) (Inv.far w g lb bb m key nonce ctr bs _ c (by omega) (by omega) (by omega) (by omega)) (fun co => Done.far w g lb bb m key nonce ctr bs _ c co (by omega) (by omega) (by omega) (by omega)) (fun k W h => by have := h.1; omega) j6
    (fun x a' k W => Inv w g lb bb m key nonce ctr bs (some ⟨b, off, none⟩) c k W ∧ ∃ p, lb < p ∧ Row W p 48 .u8 x ∧ a' = { tmps := #[.agg (arr .u8 key), .agg (arr .u8 nonce), .int .u32 ctr, .slice (some ⟨b, off, none⟩) m c, .pointer (some ⟨w.heap.size, 0, none⟩), .pointer (some ⟨nn, 0, none⟩), undef, .pointer (some ⟨bb, 0, none⟩), .slice none 0 0, .pointer (some ⟨lb, 0, none⟩), .pointer (some ⟨p, 0, none⟩), undef, undef, .slice (some ⟨b, off, none⟩) m c, .int .i64 (m : Int), .bool false, .slice (some ⟨b, off, none⟩) m c, .int .i64 (m : Int), .slice (some ⟨g, 0, none⟩) 0 m, .agg (arr .u8 key), .agg (arr .u8 nonce), .int .u32 ctr, .func (.func 39) #[] #[.pointer (some ⟨xc, 0, none⟩), .pointer (some ⟨xk, 0, none⟩), .pointer (some ⟨xn, 0, none⟩)], .agg (arr .u8 x), undef, undef, undef, undef, undef, undef, undef, undef, undef, undef, undef, undef, undef, undef, undef, undef, undef, undef, undef, undef, undef], defers := [] }) ?ib ?assign ?body ?done ?stop
  case ib =>
    rintro x a' k W W' row ⟨hi, p, hp, hr, h3⟩ hgr hrow
    exact ⟨Inv.far w g lb bb m key nonce ctr bs _ c (B := lb + 1) (by omega) (by omega) (by omega) (by omega) k W W' row hi hgr (fun r e => by have := (hrow r e).1; omega), p, hp, hr.grown hgr (Held.ne_of_cells hr.2 (fun r e => (hrow r e).2)), h3⟩
  case assign =>
    intro l k x W K hi hat hsz hK
    injection hat with hat
    have HXL := Lib.hid (show x.length = 64 by rw [← hat]; exact block_length _ _ _)
    have HXW := Lib.hid (show ∀ z ∈ x, (Lit.int .u8 z).wf = true by rw [← hat]; exact bs_wf (block_bytes _ _ _))
    clear hat
    simp only [Held.zip_one, List.setIfInBounds_toArray, List.set_cons_zero, List.set_cons_succ]
    gi_wp2_with (first
      | (refine wpListIn_alloc_Row rfl 48 rfl .u8 64 zero_64 ?_; intro w1 r1 g1 z1)
      | (refine wpListIn_store_RowTo (w := w1) rfl 48 _ _ rfl W.heap.size rfl 48 .u8 _ x rfl r1 64 info_64 HXL.out (by simp) HXW.out ?_; intro w2 r2 g2 z2))
    have b2 : Below W.heap.size W w2 := ((Below.refl _ W).grown g1 (Nat.le_refl _) (by simp)).grown g2 g1.size (fun r e => by cases e; exact Nat.le_refl _)
    exact hK _ _ ((Held.others_of_new g1).trans (Held.others_of_grown r1.2 g2)) (Only.of_below b2) ⟨Inv.far w g lb bb m key nonce ctr bs _ c (B := W.heap.size) (by omega) (by omega) (by omega) (by omega) k _ _ none hi (grown_of_below b2 none) (fun r e => by cases e), W.heap.size, by omega, r2, rfl⟩
  case body =>
    rintro l k x a' W hl hrec ⟨⟨i0, hAt⟩, p, hp, hr, rfl⟩ hat hsz
    injection hat with hat
    have HXB := Lib.hid hat
    have HXL := Lib.hid (show x.length = 64 by rw [← hat]; exact block_length _ _ _)
    clear hat hrec
    gi_wp2_with (refine wpListIn_load_Row (w := W) rfl 48 _ rfl p rfl 48 .u8 _ hr 64 5 Tryd.underlying48 info_64 HXL.out ?_)
    gi_loopw [25] (fun i wr => ∃ j q : Nat, j ≤ 64 ∧ q = 64 * k + j ∧ q < m ∧ i = .int .i64 j ∧ At w g lb bb m key nonce ctr bs (some ⟨b, off, none⟩) c q wr ∧ KeepsOthers W wr ∧ Only (fun b => b = g ∨ b = lb) W wr) (fun i _ => 64 - (intOf i).toNat)
    case atStart => exact ⟨0, 64 * k, by omega, by omega, i0, rfl, hAt, KeepsOthers.refl _, Only.refl _ _⟩
    case round =>
      clear hAt
      obtain ⟨j, q, hj, hq, hqm, rfl, ⟨i1, i2, i3, i4⟩, kr, orr⟩ := hrel
      have hj0 : (0 : Int) ≤ (j : Int) := by omega
      by_cases hlt : j < 64
      · have hlt' : (j : Int) < 64 := by omega
        have hidx : ∀ X, (Instr.index 48 (.agg (arr .u8 x)) (.int .i64 (j : Int))).run Tryd.prog X = .ok (.int .u8 (x.getD j 0)) X := fun X => run_index_arr _ 5 64 .u8 x j X Tryd.underlying48 (by kernel_rfl) (by kernel_rfl) HXL.out hlt
        have hcy := hcell6 wr i4 q hqm
        have ez : x.getD j 0 = streamAt key ctr nonce q := by rw [← HXB.out, hq]; exact HST.out k j hlt
        have hz := HSB.out q
        have hy := HBS.out.at_ q
        have HXq := Lib.hid (HX.out q hqm)
        rw [ez] at hidx
        have HQL := Lib.hid (HXL'.out q (by omega))
        have cl := cell_of_one i1
        obtain ⟨cs, hcs⟩ := i2.cells_
        have lbW : lb < wr.drew.heap.size := (Array.getElem?_eq_some_iff.1 i1).1
        have gW : g < wr.drew.heap.size := (Array.getElem?_eq_some_iff.1 hcs).1
        have hbW := i4.size
        generalize bs.getD q 0 = y at *
        generalize streamAt key ctr nonce q = z at *
        have keepS : ∀ {X X' : World}, X.heap[bb]? = some (.cells #[.slice (some ⟨b, off, none⟩) m c] 24 (0, 0)) ∧ X.cell? ⟨b, off + q, none⟩ = some (.int .u8 y) → Below X.heap.size X X' → X'.heap[bb]? = some (.cells #[.slice (some ⟨b, off, none⟩) m c] 24 (0, 0)) ∧ X'.cell? ⟨b, off + q, none⟩ = some (.int .u8 y) := fun h hb => ⟨(hb.block bb (Array.getElem?_eq_some_iff.1 h.1).1).trans h.1, (hb.cell (World.block_lt_of_cell? _ _ h.2)).trans h.2⟩
        have keepG : ∀ {X X' : World}, X.heap[bb]? = some (.cells #[.slice (some ⟨b, off, none⟩) m c] 24 (0, 0)) ∧ X.cell? ⟨b, off + q, none⟩ = some (.int .u8 y) → X.grownBy X' (some g) → X'.heap[bb]? = some (.cells #[.slice (some ⟨b, off, none⟩) m c] 24 (0, 0)) ∧ X'.cell? ⟨b, off + q, none⟩ = some (.int .u8 y) := fun {X X'} h hb => ⟨Held.keep_cells h.1 hb (by intro e; injection e with e; omega), (World.cell?_of_block (w := X) (w' := X') (a := ⟨b, off + q, none⟩) (hb.block b (World.block_lt_of_cell? _ _ h.2) (by intro e; injection e with e; omega))).trans h.2⟩
        have keepL : ∀ {X X' : World}, X.heap[bb]? = some (.cells #[.slice (some ⟨b, off, none⟩) m c] 24 (0, 0)) ∧ X.cell? ⟨b, off + q, none⟩ = some (.int .u8 y) → X.grownBy X' (some lb) → X'.heap[bb]? = some (.cells #[.slice (some ⟨b, off, none⟩) m c] 24 (0, 0)) ∧ X'.cell? ⟨b, off + q, none⟩ = some (.int .u8 y) := fun {X X'} h hb => ⟨Held.keep_cells h.1 hb (by intro e; injection e with e; omega), (World.cell?_of_block (w := X) (w' := X') (a := ⟨b, off + q, none⟩) (hb.block b (World.block_lt_of_cell? _ _ h.2) (by intro e; injection e with e; omega))).trans h.2⟩
        gi_wp2_with fail
        refine Held.wpIn_region_heldR (r := some l) (S := fun X => X.heap[bb]? = some (.cells #[.slice (some ⟨b, off, none⟩) m c] 24 (0, 0)) ∧ X.cell? ⟨b, off + q, none⟩ = some (.int .u8 y)) rfl (by kernel_rfl) (by kernel_rfl) (fun a w h => h) ?_
        change wpAnyH _ _ _ _ _ _ _ _ wr.drew
        have c0_0 : wr.drew.heap[bb]? = some (.cells #[.slice (some ⟨b, off, none⟩) m c] 24 (0, 0)) ∧ wr.drew.cell? ⟨b, off + q, none⟩ = some (.int .u8 y) := ⟨i3, hcy⟩
        refine Held.take (v := .slice (some ⟨b, off, none⟩) m c) 1 (some 29) rfl rfl (by kernel_rfl) (by kernel_rfl) (by kernel_rfl) (fun _ _ _ h => h) rfl (Held.y_load rfl rfl (by kernel_rfl) (fun X h => cell_of_one h.1)) c0_0 ?_
        simp only [Act.put, List.setIfInBounds_toArray, List.set_cons_zero, List.set_cons_succ]
        refine Held.take (v := .int .u8 z) 6 (some 34) rfl rfl (by kernel_rfl) (by kernel_rfl) (by kernel_rfl) (fun _ _ _ h => h) rfl (Held.y_move rfl rfl) c0_0 ?_
        simp only [Act.put, List.setIfInBounds_toArray, List.set_cons_zero, List.set_cons_succ]
        refine Held.two 0 2 (by kernel_rfl) ?_ ?_
        · refine Held.op_load 0 (some 28) 24 ⟨lb, 0, none⟩ (.slice (some ⟨g, 0, none⟩) q m) rfl rfl rfl rfl rfl (Held.run_loadVar_cell _ _ _ _ (by kernel_rfl) cl) ?_
          have c0_1 := c0_0
          refine ⟨c0_1, ?_⟩
          simp only [Act.put, List.setIfInBounds_toArray, List.set_cons_zero, List.set_cons_succ]
          refine Held.one 2 (by kernel_rfl) ?_
          refine Held.op_load 2 (some 30) 24 ⟨lb, 0, none⟩ (.slice (some ⟨g, 0, none⟩) q m) rfl rfl rfl rfl rfl (Held.run_loadVar_cell _ _ _ _ (by kernel_rfl) cl) ?_
          have c0_2 := c0_1
          refine ⟨c0_2, ?_⟩
          simp only [Act.put, List.setIfInBounds_toArray, List.set_cons_zero, List.set_cons_succ]
          refine Held.take (v := .int .i64 (q : Int)) 3 (some 31) rfl rfl (by kernel_rfl) (by kernel_rfl) (by kernel_rfl) (fun _ _ _ h => h) rfl (Held.y_len rfl rfl (by kernel_rfl)) c0_2 ?_
          simp only [Act.put, List.setIfInBounds_toArray, List.set_cons_zero, List.set_cons_succ]
          refine Held.take (v := .pointer (some ⟨b, off + q, none⟩)) 4 (some 32) rfl rfl (by kernel_rfl) (by kernel_rfl) (by kernel_rfl) (fun _ _ _ h => h) rfl (Held.y_addr rfl rfl rfl (fun X => Held.run_addr_slice 24 5 b off m c q .i64 Tryd.underlying24 (by kernel_rfl) hqm X)) c0_2 ?_
          simp only [Act.put, List.setIfInBounds_toArray, List.set_cons_zero, List.set_cons_succ]
          refine Held.take (v := .int .u8 y) 5 (some 33) rfl rfl (by kernel_rfl) (by kernel_rfl) (by kernel_rfl) (fun _ _ _ h => h) rfl (Held.y_load rfl rfl (by kernel_rfl) (fun X h => h.2)) c0_2 ?_
          simp only [Act.put, List.setIfInBounds_toArray, List.set_cons_zero, List.set_cons_succ]
          refine Held.take (v := .int .u8 (bits .xor .u8 y z)) 7 (some 35) rfl rfl (by kernel_rfl) (by kernel_rfl) (by kernel_rfl) (fun _ _ _ h => h) rfl (Held.y_int rfl rfl rfl (fun X => Held.run_bitop (.inl rfl) _ _ rfl X)) c0_2 ?_
          simp only [Act.put, List.setIfInBounds_toArray, List.set_cons_zero, List.set_cons_succ]
          refine Held.one 8 (by kernel_rfl) ?_
          refine Held.op_build_Row 8 (some 36) 24 5 1 .u8 1 [bits .xor .u8 y z] rfl rfl rfl rfl Tryd.underlying24 info_u8 (by simp [Act.eval]) rfl (by omega) (by omega) (by simpa using wf_byte (byte_xor_bound hy hz)) ?_
          intro p8 w8 r8 b8 h8
          have c0_3 := keepS c0_2 b8
          have l8 := (b8.block lb lbW).trans i1
          have cl8 := cell_of_one l8
          have o8 := Mem.Own.below (w := wr.drew) (i2.drewN 1) b8
          have i8 := r8.ints (n := 1) (by simp)
          refine ⟨c0_3, ?_⟩
          simp only [Act.put, List.setIfInBounds_toArray, List.set_cons_zero, List.set_cons_succ]
          refine Held.one 9 (by kernel_rfl) ?_
          refine Held.op_append_fits 9 (some 37) 24 rfl rfl rfl rfl w.heap.size 5 .u8 1 Tryd.underlying24 info_u8 g m q (xors key nonce ctr (bs.take q)) rfl HQL.out o8 w8.heap.size (some ⟨p8, 0, none⟩) 1 1 [bits .xor .u8 y z] rfl i8 (q + 1) rfl (by omega) ?_
          intro wA oA gA
          have c0_4 := keepG c0_3 gA
          refine ⟨c0_4, ?_⟩
          simp only [Act.put, List.setIfInBounds_toArray, List.set_cons_zero, List.set_cons_succ]
          refine Held.one 10 (by kernel_rfl) ?_
          refine Held.op_store_box 10 none 24 lb 24 _ (.slice (some ⟨g, 0, none⟩) (q + 1) m) rfl rfl rfl rfl rfl rfl (Held.keep_cells l8 gA (by intro e; injection e with e; omega)) (by kernel_rfl) rfl rfl ?_
          intro wB lB gB
          have c0_5 := keepL c0_4 gB
          refine ⟨c0_5, ?_⟩
          simp only [Act.put]
          refine wpAnyH_done (by kernel_rfl) ?_ _
          have cB := cell_of_one lB
          have nB := cell_of_one c0_5.1
          have kW : KeepsOthers W wB := kr.trans (KeepsOthers.trans (KeepsOthers.trans (show KeepsOthers wr w8 from ⟨(Held.others_of_new (w := wr.drew) (grown_of_below b8 none)).size, (Held.others_of_new (w := wr.drew) (grown_of_below b8 none)).same⟩) (Held.others_of_grown ((b8.block g gW).trans hcs) gA)) (Held.others_of_grown (Held.keep_cells l8 gA (by intro e; injection e with e; omega)) gB))
          have oW : Only (fun b => b = g ∨ b = lb) W wB := orr.trans (Only.trans (Only.trans (show Only (fun b => b = g ∨ b = lb) wr w8 from ⟨b8.size, (Only.of_below (S := fun b => b = g ∨ b = lb) b8).block⟩) (Only.of_grown gA (S := fun b => b = g ∨ b = lb) (fun r e => by cases e; exact .inl rfl))) (Only.of_grown gB (fun r e => by cases e; exact .inr rfl)))
          have oB := oA.kept gB (.inr (fun e => by have e : some g = some lb := e; injection e with e; omega))
          rw [← HXq.out] at oB
          have s8 := b8.size
          have s8' : wr.heap.size ≤ w8.heap.size := s8
          have bB : Below w.heap.size w wB := ((i4.trans (Below.mono (show Below wr.heap.size wr w8 from ⟨b8.os, b8.tape, b8.output, b8.size, b8.block⟩) i4.size)).grown gA (Nat.le_trans i4.size s8') (fun r e => by cases e; omega)).grown gB (Nat.le_trans (Nat.le_trans i4.size s8') gA.size) (fun r e => by cases e; omega)
          have aB : At w g lb bb m key nonce ctr bs (some ⟨b, off, none⟩) c (q + 1) wB := ⟨lB, oB, c0_5.1, bB⟩
          clear lB oB bB gA gB oA b8 l8 cl8 o8 i8 r8 h8
          by_cases hlast : q + 1 = m
          · have t1 : (decide (((q : Int) + 1) = (m : Int))) = true := by simp; omega
            rw [hlast] at aB
            gi_wp2_with fail
            exact ⟨kW, rfl, aB⟩
          · have t1 : ¬ (((q : Int) + 1) = (m : Int)) := by omega
            gi_wp2_with fail
            go_roundw
            case rel => exact ⟨j + 1, q + 1, by omega, by omega, by omega, by go_num, aB, kW, oW⟩
            case measure => simp [intOf]; omega
        · refine Held.op_load 2 (some 30) 24 ⟨lb, 0, none⟩ (.slice (some ⟨g, 0, none⟩) q m) rfl rfl rfl rfl rfl (Held.run_loadVar_cell _ _ _ _ (by kernel_rfl) cl) ?_
          have c0_1 := c0_0
          refine ⟨c0_1, ?_⟩
          simp only [Act.put, List.setIfInBounds_toArray, List.set_cons_zero, List.set_cons_succ]
          refine Held.take (v := .int .i64 (q : Int)) 3 (some 31) rfl rfl (by kernel_rfl) (by kernel_rfl) (by kernel_rfl) (fun _ _ _ h => h) rfl (Held.y_len rfl rfl (by kernel_rfl)) c0_1 ?_
          simp only [Act.put, List.setIfInBounds_toArray, List.set_cons_zero, List.set_cons_succ]
          refine Held.take (v := .pointer (some ⟨b, off + q, none⟩)) 4 (some 32) rfl rfl (by kernel_rfl) (by kernel_rfl) (by kernel_rfl) (fun _ _ _ h => h) rfl (Held.y_addr rfl rfl rfl (fun X => Held.run_addr_slice 24 5 b off m c q .i64 Tryd.underlying24 (by kernel_rfl) hqm X)) c0_1 ?_
          simp only [Act.put, List.setIfInBounds_toArray, List.set_cons_zero, List.set_cons_succ]
          refine Held.take (v := .int .u8 y) 5 (some 33) rfl rfl (by kernel_rfl) (by kernel_rfl) (by kernel_rfl) (fun _ _ _ h => h) rfl (Held.y_load rfl rfl (by kernel_rfl) (fun X h => h.2)) c0_1 ?_
          simp only [Act.put, List.setIfInBounds_toArray, List.set_cons_zero, List.set_cons_succ]
          refine Held.take (v := .int .u8 (bits .xor .u8 y z)) 7 (some 35) rfl rfl (by kernel_rfl) (by kernel_rfl) (by kernel_rfl) (fun _ _ _ h => h) rfl (Held.y_int rfl rfl rfl (fun X => Held.run_bitop (.inl rfl) _ _ rfl X)) c0_1 ?_
          simp only [Act.put, List.setIfInBounds_toArray, List.set_cons_zero, List.set_cons_succ]
          refine Held.two 0 8 (by kernel_rfl) ?_ ?_
          · refine Held.op_load 0 (some 28) 24 ⟨lb, 0, none⟩ (.slice (some ⟨g, 0, none⟩) q m) rfl rfl rfl rfl rfl (Held.run_loadVar_cell _ _ _ _ (by kernel_rfl) cl) ?_
            have c0_2 := c0_1
            refine ⟨c0_2, ?_⟩
            simp only [Act.put, List.setIfInBounds_toArray, List.set_cons_zero, List.set_cons_succ]
            refine Held.one 8 (by kernel_rfl) ?_
            refine Held.op_build_Row 8 (some 36) 24 5 1 .u8 1 [bits .xor .u8 y z] rfl rfl rfl rfl Tryd.underlying24 info_u8 (by simp [Act.eval]) rfl (by omega) (by omega) (by simpa using wf_byte (byte_xor_bound hy hz)) ?_
            intro p8 w8 r8 b8 h8
            have c0_3 := keepS c0_2 b8
            have l8 := (b8.block lb lbW).trans i1
            have cl8 := cell_of_one l8
            have o8 := Mem.Own.below (w := wr.drew) (i2.drewN 1) b8
            have i8 := r8.ints (n := 1) (by simp)
            refine ⟨c0_3, ?_⟩
            simp only [Act.put, List.setIfInBounds_toArray, List.set_cons_zero, List.set_cons_succ]
            refine Held.one 9 (by kernel_rfl) ?_
            refine Held.op_append_fits 9 (some 37) 24 rfl rfl rfl rfl w.heap.size 5 .u8 1 Tryd.underlying24 info_u8 g m q (xors key nonce ctr (bs.take q)) rfl HQL.out o8 w8.heap.size (some ⟨p8, 0, none⟩) 1 1 [bits .xor .u8 y z] rfl i8 (q + 1) rfl (by omega) ?_
            intro wA oA gA
            have c0_4 := keepG c0_3 gA
            refine ⟨c0_4, ?_⟩
            simp only [Act.put, List.setIfInBounds_toArray, List.set_cons_zero, List.set_cons_succ]
            refine Held.one 10 (by kernel_rfl) ?_
            refine Held.op_store_box 10 none 24 lb 24 _ (.slice (some ⟨g, 0, none⟩) (q + 1) m) rfl rfl rfl rfl rfl rfl (Held.keep_cells l8 gA (by intro e; injection e with e; omega)) (by kernel_rfl) rfl rfl ?_
            intro wB lB gB
            have c0_5 := keepL c0_4 gB
            refine ⟨c0_5, ?_⟩
            simp only [Act.put]
            refine wpAnyH_done (by kernel_rfl) ?_ _
            have cB := cell_of_one lB
            have nB := cell_of_one c0_5.1
            have kW : KeepsOthers W wB := kr.trans (KeepsOthers.trans (KeepsOthers.trans (show KeepsOthers wr w8 from ⟨(Held.others_of_new (w := wr.drew) (grown_of_below b8 none)).size, (Held.others_of_new (w := wr.drew) (grown_of_below b8 none)).same⟩) (Held.others_of_grown ((b8.block g gW).trans hcs) gA)) (Held.others_of_grown (Held.keep_cells l8 gA (by intro e; injection e with e; omega)) gB))
            have oW : Only (fun b => b = g ∨ b = lb) W wB := orr.trans (Only.trans (Only.trans (show Only (fun b => b = g ∨ b = lb) wr w8 from ⟨b8.size, (Only.of_below (S := fun b => b = g ∨ b = lb) b8).block⟩) (Only.of_grown gA (S := fun b => b = g ∨ b = lb) (fun r e => by cases e; exact .inl rfl))) (Only.of_grown gB (fun r e => by cases e; exact .inr rfl)))
            have oB := oA.kept gB (.inr (fun e => by have e : some g = some lb := e; injection e with e; omega))
            rw [← HXq.out] at oB
            have s8 := b8.size
            have s8' : wr.heap.size ≤ w8.heap.size := s8
            have bB : Below w.heap.size w wB := ((i4.trans (Below.mono (show Below wr.heap.size wr w8 from ⟨b8.os, b8.tape, b8.output, b8.size, b8.block⟩) i4.size)).grown gA (Nat.le_trans i4.size s8') (fun r e => by cases e; omega)).grown gB (Nat.le_trans (Nat.le_trans i4.size s8') gA.size) (fun r e => by cases e; omega)
            have aB : At w g lb bb m key nonce ctr bs (some ⟨b, off, none⟩) c (q + 1) wB := ⟨lB, oB, c0_5.1, bB⟩
            clear lB oB bB gA gB oA b8 l8 cl8 o8 i8 r8 h8
            by_cases hlast : q + 1 = m
            · have t1 : (decide (((q : Int) + 1) = (m : Int))) = true := by simp; omega
              rw [hlast] at aB
              gi_wp2_with fail
              exact ⟨kW, rfl, aB⟩
            · have t1 : ¬ (((q : Int) + 1) = (m : Int)) := by omega
              gi_wp2_with fail
              go_roundw
              case rel => exact ⟨j + 1, q + 1, by omega, by omega, by omega, by go_num, aB, kW, oW⟩
              case measure => simp [intOf]; omega
          · refine Held.op_build_Row 8 (some 36) 24 5 1 .u8 1 [bits .xor .u8 y z] rfl rfl rfl rfl Tryd.underlying24 info_u8 (by simp [Act.eval]) rfl (by omega) (by omega) (by simpa using wf_byte (byte_xor_bound hy hz)) ?_
            intro p8 w8 r8 b8 h8
            have c0_2 := keepS c0_1 b8
            have l8 := (b8.block lb lbW).trans i1
            have cl8 := cell_of_one l8
            have o8 := Mem.Own.below (w := wr.drew) (i2.drewN 1) b8
            have i8 := r8.ints (n := 1) (by simp)
            refine ⟨c0_2, ?_⟩
            simp only [Act.put, List.setIfInBounds_toArray, List.set_cons_zero, List.set_cons_succ]
            refine Held.one 0 (by kernel_rfl) ?_
            refine Held.op_load 0 (some 28) 24 ⟨lb, 0, none⟩ (.slice (some ⟨g, 0, none⟩) q m) rfl rfl rfl rfl rfl (Held.run_loadVar_cell _ _ _ _ (by kernel_rfl) cl8) ?_
            have c0_3 := c0_2
            refine ⟨c0_3, ?_⟩
            simp only [Act.put, List.setIfInBounds_toArray, List.set_cons_zero, List.set_cons_succ]
            refine Held.one 9 (by kernel_rfl) ?_
            refine Held.op_append_fits 9 (some 37) 24 rfl rfl rfl rfl w.heap.size 5 .u8 1 Tryd.underlying24 info_u8 g m q (xors key nonce ctr (bs.take q)) rfl HQL.out o8 w8.heap.size (some ⟨p8, 0, none⟩) 1 1 [bits .xor .u8 y z] rfl i8 (q + 1) rfl (by omega) ?_
            intro wA oA gA
            have c0_4 := keepG c0_3 gA
            refine ⟨c0_4, ?_⟩
            simp only [Act.put, List.setIfInBounds_toArray, List.set_cons_zero, List.set_cons_succ]
            refine Held.one 10 (by kernel_rfl) ?_
            refine Held.op_store_box 10 none 24 lb 24 _ (.slice (some ⟨g, 0, none⟩) (q + 1) m) rfl rfl rfl rfl rfl rfl (Held.keep_cells l8 gA (by intro e; injection e with e; omega)) (by kernel_rfl) rfl rfl ?_
            intro wB lB gB
            have c0_5 := keepL c0_4 gB
            refine ⟨c0_5, ?_⟩
            simp only [Act.put]
            refine wpAnyH_done (by kernel_rfl) ?_ _
            have cB := cell_of_one lB
            have nB := cell_of_one c0_5.1
            have kW : KeepsOthers W wB := kr.trans (KeepsOthers.trans (KeepsOthers.trans (show KeepsOthers wr w8 from ⟨(Held.others_of_new (w := wr.drew) (grown_of_below b8 none)).size, (Held.others_of_new (w := wr.drew) (grown_of_below b8 none)).same⟩) (Held.others_of_grown ((b8.block g gW).trans hcs) gA)) (Held.others_of_grown (Held.keep_cells l8 gA (by intro e; injection e with e; omega)) gB))
            have oW : Only (fun b => b = g ∨ b = lb) W wB := orr.trans (Only.trans (Only.trans (show Only (fun b => b = g ∨ b = lb) wr w8 from ⟨b8.size, (Only.of_below (S := fun b => b = g ∨ b = lb) b8).block⟩) (Only.of_grown gA (S := fun b => b = g ∨ b = lb) (fun r e => by cases e; exact .inl rfl))) (Only.of_grown gB (fun r e => by cases e; exact .inr rfl)))
            have oB := oA.kept gB (.inr (fun e => by have e : some g = some lb := e; injection e with e; omega))
            rw [← HXq.out] at oB
            have s8 := b8.size
            have s8' : wr.heap.size ≤ w8.heap.size := s8
            have bB : Below w.heap.size w wB := ((i4.trans (Below.mono (show Below wr.heap.size wr w8 from ⟨b8.os, b8.tape, b8.output, b8.size, b8.block⟩) i4.size)).grown gA (Nat.le_trans i4.size s8') (fun r e => by cases e; omega)).grown gB (Nat.le_trans (Nat.le_trans i4.size s8') gA.size) (fun r e => by cases e; omega)
            have aB : At w g lb bb m key nonce ctr bs (some ⟨b, off, none⟩) c (q + 1) wB := ⟨lB, oB, c0_5.1, bB⟩
            clear lB oB bB gA gB oA b8 l8 cl8 o8 i8 r8 h8
            by_cases hlast : q + 1 = m
            · have t1 : (decide (((q : Int) + 1) = (m : Int))) = true := by simp; omega
              rw [hlast] at aB
              gi_wp2_with fail
              exact ⟨kW, rfl, aB⟩
            · have t1 : ¬ (((q : Int) + 1) = (m : Int)) := by omega
              gi_wp2_with fail
              go_roundw
              case rel => exact ⟨j + 1, q + 1, by omega, by omega, by omega, by go_num, aB, kW, oW⟩
              case measure => simp [intOf]; omega
      · have hj64 : j = 64 := by omega
        subst hj64
        gi_wp2_with fail
        exact ⟨kr, orr, by omega, by rw [show 64 * (k + 1) = q by omega]; exact ⟨i1, i2, i3, i4⟩⟩
  case done =>
    rintro D k W hD hat _ hDl
    cases hat
  case stop =>
    rintro D co k W hD ⟨rfl, i1, i2, i3, ib⟩ hDl
    have cl := cell_of_one i1
    gi_wp2_with fail
    have ge : w.heap.size ≤ g := by omega
    have hf := (i2.fill (M := (xors key nonce ctr bs).map (Value.int .u8)) (by rw [List.take_of_length_le (by simp [xors_length, HB.out]), List.take_of_length_le (by rw [HB.out]; omega)])).done (Nat.le_refl _) (by simp [xors_length, HB.out])
    have hgD : g ≠ D := by omega
    refine ⟨by simp, .inl ⟨_, _, rfl, run_takeDeferred hDl, ?_⟩⟩
    have r9 : Row (W.putObj D (.deferred none)) g 5 .u8 (xors key nonce ctr bs) := ⟨HW.out, (World.putObj_heap_other hgD).trans hf⟩
    refine ⟨_, results_tmp rfl _ _ _, g, rfl, ge, r9, ?_⟩
    exact ib.grown (grownBy_putObj' _ D _) ib.size (fun r e => by have := c6.size; cases e; omega)

theorem xor_any (key nonce : List Int) (ctr : Int) (B : Nat) (A : Option Addr) (m c : Nat) (bs : List Int) (w : World) (hi : Ints w .u8 B A m bs) (hB : B ≤ w.heap.size) (hmc : m ≤ c) (hm : m ≤ 17592186044416)
    (hk : key.length = 32) (hkb : Bs key) (hn : nonce.length = 12) (hnb : Bs nonce) (hc : R32 ctr) (hT : Tab w 1 sigma) :
    Calls Tryd.prog 21 #[.agg (arr .u8 key), .agg (arr .u8 nonce), .int .u32 ctr, .slice A m c] w fun e w' => ∃ A' c', e = .returned (.slice A' m c') ∧ m ≤ c' ∧ c' ≤ 17592186044416 ∧ Mem.Own w' w.heap.size 5 .u8 (.slice A' m c') (xors key nonce ctr bs) ∧ Below w.heap.size w w' := by
  have hl := hi.1
  by_cases h0 : m = 0
  · subst h0
    have hz : bs = [] := List.eq_nil_of_length_eq_zero hl
    subst hz
    refine (xor_none key nonce ctr A c w hkb hnb).mono ?_
    rintro e w' ⟨rfl, b⟩
    exact ⟨none, 0, rfl, Nat.le_refl _, by omega, by simpa [xors] using Own.nil w' w.heap.size 5 .u8, b⟩
  · refine (xor_some key nonce ctr B A m c bs w hi hB hmc hm (by omega) hk hkb hn hnb hc hT).mono ?_
    rintro e w' ⟨g, rfl, hg, r, b⟩
    have hL : (xors key nonce ctr bs).length = m := by rw [xors_length, hl]
    have := r.own hg (n := m) (by omega) (by rw [hL]; unfold maxLen; omega)
    rw [hL, List.take_of_length_le (by omega)] at this
    exact ⟨_, m, rfl, Nat.le_refl _, hm, this, b⟩
end Go.Proofs.YtebcejncjljmhaaDoor.Cha
namespace Go.Proofs.YtebcejncjljmhaaDoor.Help
open Go.RowKit Go.Proofs.YtebcejncjljmhaaDoor.Mem
set_option linter.unusedVariables false

theorem own_any (B : Nat) (A : Option Addr) (n c : Nat) (zs : List Int) (f : Int) (w : World) (h : Ints w .u8 B A n zs) (hB : B ≤ w.heap.size) (hn : n ≤ 1099511627776) (hf : (Lit.int .u8 f).wf = true) :
    Calls Tryd.prog 11 #[.slice A n c, .int .u8 f] w fun e w' => ∃ g, e = .returned (.slice (some ⟨g, 0, none⟩) n (n + 3)) ∧ w.heap.size ≤ g ∧ Row w' g 5 .u8 (zs ++ [f, f, f]) ∧ Below w.heap.size w w' := by
  obtain ⟨i0, hi0, hz0, hs0, hb0⟩ := info_parts info_u8
  have HL := Lib.hid h.1
  go_enter Tryd.func11, Tryd.ntmps11
  go_wp2_with (first
    | (at_make; refine wpList_make_own _ rfl _ _ 24 rfl w.heap.size 5 i0 (.int .u8 0) 1 Tryd.underlying24 hi0 hz0 hs0 .i64 .i64 _ (n + 3) rfl rfl (by simp) (by rw [hb0]; omega) (by unfold maxLen; omega) (Nat.le_refl _) ?_; intro w1 hown1 hg1)
    | (at_builtin; refine wpList_append_ints_fits _ rfl _ _ 24 rfl w.heap.size 5 .u8 1 Tryd.underlying24 info_u8 w.heap.size (n + 3) [] rfl ⟨by simp, hown1⟩ B A n c zs rfl (h.keep fun p hp => World.cell?_of_block (hg1.block _ (by omega) (by simp))) (by simp) ?_; intro w2 hown2 hg2))
  simp only [List.length_nil, Nat.zero_add, List.nil_append] at hown2
  have hfill := hown2.fill (M := (zs ++ [f, f, f]).map (Value.int .u8)) (by rw [List.map_append, List.take_left' (by simpa using HL.out)])
  have hbel : Below w.heap.size w w2 := ((Below.refl _ _).grown hg1 (Nat.le_refl _) (by simp)).grown hg2 (by have := hg1.size; omega) (by simp)
  clear hown2 hown1 hg1 hg2
  go_loopw [7] (fun i wr => ∃ k : Nat, n ≤ k ∧ k ≤ n + 3 ∧ i = .int .i64 k ∧ Below w.heap.size w wr ∧ Fill wr w.heap.size 5 (n + 3) ((zs ++ [f, f, f]).map (Value.int .u8)) k) (fun i _ => n + 3 - (intOf i).toNat)
  case atStart => exact ⟨n, by omega, by omega, rfl, hbel, hfill⟩
  case round =>
    obtain ⟨k, hk0, hk, rfl, hbl, hfl⟩ := hrel
    by_cases hlt : k < n + 3
    · obtain ⟨u, hu⟩ := hfl.cell hlt
      have hfr := hfl.frozen k
      have HS := Lib.hid (hfl.step (u := .int .u8 f) (by
        have hz := HL.out
        rw [List.getElem?_map, List.getElem?_append_right (by omega), hz]
        have : k - n = 0 ∨ k - n = 1 ∨ k - n = 2 := by omega
        rcases this with e | e | e <;> rw [e] <;> rfl) hlt)
      have hlt' : (k : Int) < (n : Int) + 3 := by omega
      have hk1 : (0 : Int) ≤ (k : Int) := by omega
      go_wp2_with fail
      go_roundw
      case rel => exact ⟨k + 1, by omega, by omega, by go_num, hbl.setCell (by simp) _, HS.out⟩
      case measure => simp [intOf]; omega
    · have HD := Lib.hid (hfl.done (by omega) (by have := HL.out; simp; omega))
      go_wp2_with fail
      go_ret
      exact ⟨w.heap.size, rfl, Nat.le_refl _, ⟨fun z hz => by
        rcases List.mem_append.1 hz with hz | hz
        · exact h.2.1 z hz
        · have : z = f := by simpa using hz
          rw [this]; exact hf, HD.out⟩, hbl⟩

theorem kept_any (B : Nat) (A : Option Addr) (n c g : Nat) (zs : List Int) (f : Int) (w : World) (h : Ints w .u8 B A n zs) (hn : n ≤ 1099511627776) (hr : Row w g 5 .u8 (zs ++ [f, f, f])) :
    Calls Tryd.prog 15 #[.slice (some ⟨g, 0, none⟩) n (n + 3), .slice A n c, .int .u8 f] w fun e w' => e = .returned (.bool true) ∧ Still w w' := by
  have HL := Lib.hid h.1
  have hi := hr.ints (n := n) (by simp; have := HL.out; omega)
  rw [List.take_left' HL.out] at hi
  go_enter Tryd.func15, Tryd.ntmps15
  go_wp2_with fail
  refine (plain_any _ _ _ _ _ _ _ _ _ _ _ hi h (by omega) (by omega)).mono ?_
  rintro e w1 ⟨rfl, hst⟩
  go_wp2_with fail
  go_loop [8] (fun i => ∃ k : Nat, n ≤ k ∧ k ≤ n + 3 ∧ i = .int .i64 k) (fun i => n + 3 - (intOf i).toNat)
  case atStart => exact ⟨n, by omega, by omega, rfl⟩
  case round =>
    obtain ⟨k, hk0, hk, rfl⟩ := hrel
    by_cases hlt : k < n + 3
    · have hc : w1.cell? ⟨g, k, none⟩ = some (.int .u8 f) := by
        have hz := HL.out
        rw [hst.cell, hr.cell (by simp; omega)]
        simp only [List.getD_eq_getElem?_getD]
        rw [List.getElem?_append_right (by omega), hz]
        have : k - n = 0 ∨ k - n = 1 ∨ k - n = 2 := by omega
        rcases this with e | e | e <;> rw [e] <;> rfl
      have hlt' : (k : Int) < (n : Int) + 3 := by omega
      have hk1 : (0 : Int) ≤ (k : Int) := by omega
      go_wp2_with fail
      go_round
      case rel => exact ⟨k + 1, by omega, by omega, by go_num⟩
      case measure => simp [intOf]; omega
    · go_wp2_with fail
      go_ret
      exact ⟨rfl, hst⟩
end Go.Proofs.YtebcejncjljmhaaDoor.Help
namespace Go.Proofs.YtebcejncjljmhaaDoor.Cha
open Go.RowKit Go.Shelf Go.Proofs.YtebcejncjljmhaaDoor.Mem Go.Proofs.YtebcejncjljmhaaDoor.Help Go.Proofs.YtebcejncjljmhaaDoor.Sum Go.Proofs.YtebcejncjljmhaaDoor.Cc Go.Proofs.YtebcejncjljmhaaDoor.Sha Go.Proofs.YtebcejncjljmhaaDoor
set_option linter.unusedVariables false
attribute [local irreducible] wpList wpListIn

theorem quarter_ex (w : World) : Calls Tryd.prog 64 #[.int .u32 286331153, .int .u32 16909060, .int .u32 2609737539, .int .u32 19088743] w fun e w' => e = .returned (.tuple #[.int .u32 3928658676, .int .u32 3407673550, .int .u32 1166100270, .int .u32 1484899515]) ∧ w = w' := by
  have h := quarter_any 286331153 16909060 2609737539 19088743 w
  rw [show qr 286331153 16909060 2609737539 19088743 = (3928658676, 3407673550, 1166100270, 1484899515) from example_qr] at h
  exact h
theorem row_ints3 {w : World} {g n : Nat} {zs : List Int} {f : Int} (hr : Row w g 5 .u8 (zs ++ [f, f, f])) (hl : zs.length = n) : Ints w .u8 w.heap.size (some ⟨g, 0, none⟩) n zs := by
  have := hr.ints (n := n) (by simp; omega)
  rwa [List.take_append_of_le_length (by omega), List.take_of_length_le (by omega)] at this
theorem bs_of_wf {zs : List Int} (h : ∀ z ∈ zs, (Lit.int .u8 z).wf = true) : Bs zs := fun z hz => wf_u8 (h z hz)
theorem r32_of_wf {x : Int} (h : (Lit.int .u32 x).wf = true) : R32 x := by
  simp [Lit.wf, IntKind.min, IntKind.max, IntKind.signed, IntKind.bits] at h
  exact ⟨h.1, by omega⟩

set_option maxRecDepth 100000
def chaLaid : List (String × DataW Unit) := [("domino/chacha.start", Rows.laid_domino_chacha_start)]
theorem chacha_of_laid {w : World} (h : laidMetH Tryd.prog chaLaid w) : Tab w 1 sigma := by
  rw [MakeChecks.laidMetH_plain _ _ _ (by kernel_rfl)] at h
  have h1 : Lib.TabIs Tryd.prog w "domino/chacha.start" .u32 sigma := Lib.tabIs_of_head (e := 40) (n := 4) (zs := sigma) (t := 91) (g := 1) (by kernel_rfl) (by kernel_rfl) Tryd.underlying91 Tryd.underlying40 (by kernel_rfl) (by kernel_rfl) h
  exact tab_of_var (by kernel_rfl) h1
end Go.Proofs.YtebcejncjljmhaaDoor.Cha
namespace Go.Proofs.YtebcejncjljmhaaDoor.Po
open Go.RowKit Go.Shelf Go.Proofs.YtebcejncjljmhaaDoor.Mem Go.Proofs.YtebcejncjljmhaaDoor.Sum Go.Proofs.YtebcejncjljmhaaDoor.Sha
set_option linter.unusedVariables false
attribute [local irreducible] wpList wpListIn

theorem tag_0 (key : List Int) (w : World) (hk : key.length = 32) (hkb : Bs key) (hT : TabK w 0 .u8 keptI) :
    Calls Tryd.prog 30 #[.agg (arr .u8 key), .slice none 0 0] w fun e w' => e = .returned (.agg (arr .u8 (poly key []))) ∧ Below w.heap.size w w' :=
  tag_any key w.heap.size none 0 0 [] [] w hk hkb ⟨rfl, by simp, fun h => absurd h (by omega)⟩ (Texts.nil _ _) (Nat.le_refl _) (by omega) (by simp) (fun z hz => by cases hz) hT
theorem tag_1 (key : List Int) (p : Option Addr) (A : Option Addr) (n c : Nat) (zs : List Int) (w : World) (hk : key.length = 32) (hkb : Bs key) (hv : Vals w w.heap.size p 1 [.slice A n c]) (h : Ints w .u8 w.heap.size A n zs) (hc : n ≤ c) (hm : c ≤ maxLen) (hn : n ≤ 1099511627776) (hb : Bs zs) (hT : TabK w 0 .u8 keptI) :
    Calls Tryd.prog 30 #[.agg (arr .u8 key), .slice p 1 1] w fun e w' => e = .returned (.agg (arr .u8 (poly key zs))) ∧ Below w.heap.size w w' := by
  have e : [zs].flatten = zs := by simp
  have := tag_any key w.heap.size p 1 1 [.slice A n c] [zs] w hk hkb hv (Texts.one h hc hm) (Nat.le_refl _) (by omega) (by rw [e, h.1]; exact hn) (by rw [e]; exact hb) hT
  rwa [e] at this
theorem tag_2 (key : List Int) (p : Option Addr) (A A' : Option Addr) (n n' c c' : Nat) (zs ys xs : List Int) (w : World) (hk : key.length = 32) (hkb : Bs key) (hv : Vals w w.heap.size p 2 [.slice A n c, .slice A' n' c']) (h : Ints w .u8 w.heap.size A n zs) (hc : n ≤ c) (hm : c ≤ maxLen)
    (h' : Ints w .u8 w.heap.size A' n' ys) (hc' : n' ≤ c') (hm' : c' ≤ maxLen) (hxs : zs ++ ys = xs) (hn : xs.length ≤ 1099511627776) (hb : Bs xs) (hT : TabK w 0 .u8 keptI) :
    Calls Tryd.prog 30 #[.agg (arr .u8 key), .slice p 2 2] w fun e w' => e = .returned (.agg (arr .u8 (poly key xs))) ∧ Below w.heap.size w w' := by
  have e : [zs, ys].flatten = xs := by simpa using hxs
  have := tag_any key w.heap.size p 2 2 [.slice A n c, .slice A' n' c'] [zs, ys] w hk hkb hv ((Texts.one h hc hm).append (Texts.one h' hc' hm')) (Nat.le_refl _) (by omega) (by rw [e]; exact hn) (by rw [e]; exact hb) hT
  rwa [e] at this
theorem tag_3 (key : List Int) (p : Option Addr) (A : Option Addr) (n c : Nat) (zs : List Int) (w : World) (hk : key.length = 32) (hkb : Bs key) (hv : Vals w w.heap.size p 3 [.slice none 0 0, .slice A n c, .slice none 0 0]) (h : Ints w .u8 w.heap.size A n zs) (hc : n ≤ c) (hm : c ≤ maxLen) (hn : n ≤ 1099511627776) (hb : Bs zs) (hT : TabK w 0 .u8 keptI) :
    Calls Tryd.prog 30 #[.agg (arr .u8 key), .slice p 3 3] w fun e w' => e = .returned (.agg (arr .u8 (poly key zs))) ∧ Below w.heap.size w w' := by
  have e : [[], zs, []].flatten = zs := by simp
  have hz := Texts.one (Ints.nil w .u8 w.heap.size none) (Nat.le_refl 0) (by simp [maxLen])
  have := tag_any key w.heap.size p 3 3 [.slice none 0 0, .slice A n c, .slice none 0 0] [[], zs, []] w hk hkb hv (hz.append ((Texts.one h hc hm).append hz)) (Nat.le_refl _) (by omega) (by rw [e, h.1]; exact hn) (by rw [e]; exact hb) hT
  rwa [e] at this

theorem poly_nil {key : List Int} (hk : key.length = 32) (hkb : Bs key) : poly key [] = (key.drop 16).take 16 := by
  have hb : Bs ((key.drop 16).take 16) := fun z hz => hkb z (List.mem_of_mem_drop (List.mem_of_mem_take hz))
  have hl : ((key.drop 16).take 16).length = 16 := by simp [hk]
  have := digits_val hb
  rw [hl] at this
  rw [poly, show count ([] : List Int) = 0 from rfl, acc, Int.zero_add, this]
def seqK : List Int := (List.range 32).map fun (i : Nat) => (i : Int)
theorem seqK_length : seqK.length = 32 := by simp [seqK]
theorem seqK_bytes : Bs seqK := fun z hz => by
  obtain ⟨i, hi, rfl⟩ := List.mem_map.1 hz
  have := List.mem_range.1 hi
  omega
theorem seqK_get {i : Nat} (hi : i < 32) : seqK.getD i 0 = (i : Int) := by simp [seqK, List.getD_eq_getElem?_getD, hi]
theorem zero_key : (Tryd.prog.info? 22).bind (·.zero) = some (.agg (arr .u8 (List.replicate 32 0))) := by kernel_rfl
theorem info_key : (Tryd.prog.info? 22).map (·.size) = some 32 := by kernel_rfl
def poLaid : List (String × DataW Unit) := [("domino/poly.kept", Rows.laid_domino_poly_kept)]
theorem poly_of_laid {w : World} (h : laidMetH Tryd.prog poLaid w) : TabK w 0 .u8 keptI := by
  rw [MakeChecks.laidMetH_plain _ _ _ (by kernel_rfl)] at h
  have h1 : Lib.TabIs Tryd.prog w "domino/poly.kept" .u8 keptI := Lib.tabIs_of_head (e := 5) (n := 16) (zs := keptI) (t := 41) (g := 0) (by kernel_rfl) (by kernel_rfl) Tryd.underlying41 Tryd.underlying5 (by kernel_rfl) (by kernel_rfl) h
  exact tabK_of_var (by kernel_rfl) h1
theorem bs_of_wf {zs : List Int} (h : ∀ z ∈ zs, (Lit.int .u8 z).wf = true) : Bs zs := fun z hz => wf_u8 (h z hz)
theorem row_ints3 {w : World} {g n : Nat} {zs : List Int} {f : Int} (hr : Row w g 5 .u8 (zs ++ [f, f, f])) (hl : zs.length = n) : Ints w .u8 w.heap.size (some ⟨g, 0, none⟩) n zs := by
  have := hr.ints (n := n) (by simp; omega)
  rwa [List.take_append_of_le_length (by omega), List.take_of_length_le (by omega)] at this
end Go.Proofs.YtebcejncjljmhaaDoor.Po
namespace Go.Proofs.YtebcejncjljmhaaDoor.Bit
open Go.RowKit

/-- 1 if the first is below the second, else 0 -/
def low (x y : Int) : Int := if x < y then 1 else 0
/-- 1 if both are one number, else 0 -/
def alike (x y : Int) : Int := if x = y then 1 else 0
/-- the first, if c is odd, else the second -/
def pickI (c x y : Int) : Int := if c % 2 = 1 then x else y

theorem low_range (x y : Int) : 0 ≤ low x y ∧ low x y ≤ 1 := by unfold low; split <;> omega
theorem alike_range (x y : Int) : 0 ≤ alike x y ∧ alike x y ≤ 1 := by unfold alike; split <;> omega

theorem xor_u64_range (x y : Int) (hx : 0 ≤ x) (hx' : x < 18446744073709551616) (hy : 0 ≤ y) (hy' : y < 18446744073709551616) :
    0 ≤ bits .xor .u64 x y ∧ bits .xor .u64 x y < 18446744073709551616 := by
  rw [u64_xor x y hx hx' hy hy']
  have h : x.toNat ^^^ y.toNat < 2 ^ 64 := Nat.xor_lt_two_pow (by omega) (by omega)
  omega

theorem xor_top (n : Int) (h : 0 ≤ n) (h' : n < 18446744073709551616) : bits .xor .u64 n 9223372036854775808 = (n + 9223372036854775808) % 18446744073709551616 := by
  rw [u64_xor n _ h h' (by omega) (by omega)]
  obtain ⟨m, rfl⟩ := Int.eq_ofNat_of_zero_le h
  have e : (m ^^^ 9223372036854775808) = (m + 9223372036854775808) % 18446744073709551616 := by
    have t := Nat.xor_mod_two_pow (a := m) (b := 9223372036854775808) (n := 63)
    have q := Nat.xor_div_two_pow (a := m) (b := 9223372036854775808) (n := 63)
    simp only [show (2 : Nat) ^ 63 = 9223372036854775808 from rfl] at t q
    have z : m / 9223372036854775808 = 0 ∨ m / 9223372036854775808 = 1 := by omega
    rcases z with z | z <;> rw [z] at q <;> simp at q t <;> omega
  simp only [Int.toNat_natCast]
  have h9 : (9223372036854775808 : Int).toNat = 9223372036854775808 := rfl
  rw [h9, e]
  omega

theorem below_eq (x y : Int) (hx : -9223372036854775808 ≤ x) (hx' : x ≤ 9223372036854775807) (hy : -9223372036854775808 ≤ y) (hy' : y ≤ 9223372036854775807) :
    low (bits .xor .u64 (IntKind.u64.wrap x) 9223372036854775808) (bits .xor .u64 (IntKind.u64.wrap y) 9223372036854775808) = low x y := by
  rw [IntKind.wrap_u64, IntKind.wrap_u64, xor_top _ (by omega) (by omega), xor_top _ (by omega) (by omega)]
  unfold low
  split <;> split <;> omega

theorem or_neg (d : Nat) (h : 0 < d) (h' : d < 18446744073709551616) : (d ||| (18446744073709551616 - d)) / 9223372036854775808 = 1 := by
  have a : d ≤ d ||| (18446744073709551616 - d) := Nat.left_le_or
  have b : 18446744073709551616 - d ≤ d ||| (18446744073709551616 - d) := Nat.right_le_or
  have c : d ||| (18446744073709551616 - d) < 2 ^ 64 := Nat.or_lt_two_pow (by omega) (by omega)
  omega

/-- none of a number's bits: how Same tells a zero -/
theorem zero_flag (d : Int) (h : 0 ≤ d) (h' : d < 18446744073709551616) :
    bits .xor .u64 1 (bits .or .u64 d (IntKind.u64.wrap (-d)) / 9223372036854775808) = alike d 0 := by
  rw [IntKind.wrap_u64]
  by_cases z : d = 0
  · subst z; rfl
  · have e : -d % 18446744073709551616 = 18446744073709551616 - d := by omega
    rw [e, u64_or d _ h h' (by omega) (by omega)]
    have f : (18446744073709551616 - d).toNat = 18446744073709551616 - d.toNat := by omega
    have g := or_neg d.toNat (by omega) (by omega)
    rw [f]
    have k : ((d.toNat ||| (18446744073709551616 - d.toNat) : Nat) : Int) / 9223372036854775808 = 1 := by omega
    rw [k]
    unfold alike
    rw [if_neg z]
    rfl

theorem xor_zero (x y : Int) (hx : 0 ≤ x) (hx' : x < 18446744073709551616) (hy : 0 ≤ y) (hy' : y < 18446744073709551616) : alike (bits .xor .u64 x y) 0 = alike x y := by
  rw [u64_xor x y hx hx' hy hy']
  obtain ⟨a, rfl⟩ := Int.eq_ofNat_of_zero_le hx
  obtain ⟨b, rfl⟩ := Int.eq_ofNat_of_zero_le hy
  simp only [Int.toNat_natCast]
  unfold alike
  by_cases e : a = b
  · subst e; simp
  · have n : a ^^^ b ≠ 0 := fun h => e (by rw [← Nat.xor_zero a, ← Nat.xor_self b, ← Nat.xor_assoc, h, Nat.zero_xor])
    rw [if_neg (by omega), if_neg (by omega)]

theorem same_eq (x y : Int) (hx : 0 ≤ x) (hx' : x < 18446744073709551616) (hy : 0 ≤ y) (hy' : y < 18446744073709551616) :
    bits .xor .u64 1 (bits .or .u64 (bits .xor .u64 x y) (IntKind.u64.wrap (-bits .xor .u64 x y)) / 9223372036854775808) = alike x y := by
  have r := xor_u64_range x y hx hx' hy hy'
  rw [zero_flag _ r.1 r.2, xor_zero x y hx hx' hy hy']

theorem and_one (c : Int) (h : 0 ≤ c) (h' : c < 18446744073709551616) : bits .and .u64 c 1 = c % 2 := by
  rw [u64_and c 1 h h' (by omega) (by omega)]
  have : (1 : Int).toNat = 1 := rfl
  rw [this, Nat.and_one_is_mod]
  omega

theorem pick_eq (c x y : Int) (hc : 0 ≤ c) (hc' : c < 18446744073709551616) (hx : 0 ≤ x) (hx' : x < 18446744073709551616) (hy : 0 ≤ y) (hy' : y < 18446744073709551616) :
    bits .xor .u64 y (bits .and .u64 (IntKind.u64.wrap (-bits .and .u64 c 1)) (bits .xor .u64 x y)) = pickI c x y := by
  have r := xor_u64_range x y hx hx' hy hy'
  rw [and_one c hc hc', IntKind.wrap_u64]
  unfold pickI
  by_cases o : c % 2 = 1
  · rw [if_pos o, o]
    have e : (-1 : Int) % 18446744073709551616 = 18446744073709551615 := rfl
    rw [e, u64_and _ _ (by omega) (by omega) r.1 r.2, u64_xor x y hx hx' hy hy']
    have f : (18446744073709551615 : Int).toNat = 18446744073709551615 := rfl
    have g : x.toNat ^^^ y.toNat < 2 ^ 64 := Nat.xor_lt_two_pow (by omega) (by omega)
    rw [f, Int.toNat_natCast, Nat.and_comm, show (18446744073709551615 : Nat) = 2 ^ 64 - 1 from rfl, Nat.and_two_pow_sub_one_eq_mod, Nat.mod_eq_of_lt g, u64_xor y _ hy hy' (by omega) (by omega), Int.toNat_natCast]
    rw [Nat.xor_comm x.toNat, ← Nat.xor_assoc, Nat.xor_self, Nat.zero_xor]
    omega
  · have z : c % 2 = 0 := by omega
    rw [if_neg o, z]
    have e : (-0 : Int) % 18446744073709551616 = 0 := rfl
    have f : (0 : Int).toNat = 0 := rfl
    rw [e, u64_and _ _ (by omega) (by omega) r.1 r.2, f, Nat.zero_and, u64_xor y _ hy hy' (by omega) (by omega)]
    simp
    omega

theorem pick_range (c x y : Int) (hx : 0 ≤ x) (hx' : x < 18446744073709551616) (hy : 0 ≤ y) (hy' : y < 18446744073709551616) : 0 ≤ pickI c x y ∧ pickI c x y < 18446744073709551616 := by
  unfold pickI; split <;> omega

theorem nat_xor_zero {a b : Nat} : a ^^^ b = 0 ↔ a = b :=
  ⟨fun h => by rw [← Nat.xor_zero a, ← Nat.xor_self b, ← Nat.xor_assoc, h, Nat.zero_xor], fun h => by rw [h]; exact Nat.xor_self b⟩
theorem nat_or_zero {a b : Nat} : a ||| b = 0 ↔ a = 0 ∧ b = 0 := by
  constructor
  · intro h
    have h1 : a ≤ a ||| b := Nat.left_le_or
    have h2 : b ≤ a ||| b := Nat.right_le_or
    omega
  · rintro ⟨rfl, rfl⟩; rfl

/-- what is gathered of the differences of two bytes -/
theorem gather_u8 (d x y : Int) (hd : 0 ≤ d ∧ d ≤ 255) (hx : 0 ≤ x ∧ x ≤ 255) (hy : 0 ≤ y ∧ y ≤ 255) :
    0 ≤ bits .or .u8 d (bits .xor .u8 x y) ∧ bits .or .u8 d (bits .xor .u8 x y) ≤ 255 ∧ (bits .or .u8 d (bits .xor .u8 x y) = 0 ↔ d = 0 ∧ x = y) := by
  rw [u8_xor x y (by omega) (by omega) (by omega) (by omega)]
  have h1 : x.toNat ^^^ y.toNat < 2 ^ 8 := Nat.xor_lt_two_pow (by omega) (by omega)
  rw [u8_or d _ (by omega) (by omega) (by omega) (by omega), Int.toNat_natCast]
  have h2 : d.toNat ||| (x.toNat ^^^ y.toNat) < 2 ^ 8 := Nat.or_lt_two_pow (by omega) h1
  refine ⟨by omega, by omega, ?_⟩
  have h3 := nat_or_zero (a := d.toNat) (b := x.toNat ^^^ y.toNat)
  have h4 := nat_xor_zero (a := x.toNat) (b := y.toNat)
  constructor
  · intro h
    have h5 := h3.1 (by omega)
    have h6 := h4.1 h5.2
    omega
  · rintro ⟨rfl, rfl⟩
    rw [Nat.xor_self]
    rfl
end Go.Proofs.YtebcejncjljmhaaDoor.Bit
namespace Go.Proofs.YtebcejncjljmhaaDoor.Ct
open Go.RowKit Go.Proofs.YtebcejncjljmhaaDoor.Bit

theorem ret_int {k : IntKind} {a b : Int} (h : a = b) : Ending.returned (.int k a) = .returned (.int k b) := by rw [h]

theorem same_any (x y : Int) (hx : 0 ≤ x) (hx' : x < 18446744073709551616) (hy : 0 ≤ y) (hy' : y < 18446744073709551616) (w : World) :
    Calls Tryd.prog 38 #[.int .u64 x, .int .u64 y] w fun e w' => e = .returned (.int .u64 (alike x y)) ∧ w = w' := by
  go_enter Tryd.func38, Tryd.ntmps38
  go_wp2_with fail
  go_ret
  exact ⟨ret_int (same_eq x y hx hx' hy hy'), rfl⟩

/-- the number that tells a truth -/
def oneI (b : Bool) : Int := if b = true then 1 else 0
theorem oneI_low (x y : Int) : oneI (decide (x < y)) = low x y := by unfold oneI low; simp
theorem oneI_alike (x y : Int) : oneI (x == y) = alike x y := by unfold oneI alike; simp

end Go.Proofs.YtebcejncjljmhaaDoor.Ct
