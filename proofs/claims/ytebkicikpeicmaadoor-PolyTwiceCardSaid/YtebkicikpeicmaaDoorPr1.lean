/-
  The document's own Clamp and carry, each by its contract. Conditions: bytes, places that are small enough.
-/
import Derived.Test.YtebkicikpeicmaaDoorPy1
import Derived.Test.YtebkicikpeicmaaDoorPo4
namespace Go.Proofs.YtebkicikpeicmaaDoor.Po
open Go.RowKit Go.Shelf Go.Proofs.YtebkicikpeicmaaDoor.Mem Go.Proofs.YtebkicikpeicmaaDoor.Sum
set_option linter.unusedVariables false
attribute [local irreducible] wpList wpListIn

theorem info_forty : (Tryd.prog.info? 55).map (·.size) = some 40 := by kernel_rfl
theorem info_u32 : (Tryd.prog.info? 53).map (·.size) = some 1 := by kernel_rfl
theorem zero_forty : (Tryd.prog.info? 55).bind (·.zero) = some (.agg (arr .u32 (List.replicate 40 0))) := by kernel_rfl
theorem getD_set_self (l : List Int) {i : Nat} (h : i < l.length) (x : Int) : (l.set i x).getD i 0 = x := by simp [List.getD_eq_getElem?_getD, h]
theorem clamp_get (key : List Int) {i : Nat} (hi : i < 16) : (clamp key).getD i 0 = clampAt key i := by simp [clamp, List.getD_eq_getElem?_getD, hi]

set_option maxRecDepth 100000 in
theorem rclamp_any (key : List Int) (w : World) (hk : key.length = 32) (hkb : Bs key) :
    Calls Tryd.prog 14 #[.agg (arr .u8 key)] w fun e w' => e = .returned (.agg (arr .u8 (clamp key))) ∧ Below w.heap.size w w' := by
  have HK := Lib.hid hk
  have HL := Lib.hid (clamp_length key)
  have HW := Lib.hid (bs_wf (clamp_bytes hkb))
  have HKB := Lib.hid (fun i => hkb.at_ i)
  have HCG := Lib.hid (fun i (h : i < 16) => clamp_get key h)
  clear hk
  go_enter Tryd.func14, Tryd.ntmps14
  go_wp2_with (first
    | (refine wpList_box_Row (w := w) rfl 22 _ rfl .u8 key rfl (bs_wf hkb) ?_; intro w1 r1 g1 z1)
    | (refine wpList_alloc_Row (w := w1) rfl 27 rfl .u8 16 zero_16b ?_; intro w2 r2 g2 z2)
    | (refine wpList_alloc_Row (w := w2) rfl 27 rfl .u8 16 zero_16b ?_; intro w3 r3 g3 z3))
  obtain ⟨gr, hgr⟩ : ∃ g, w1.heap.size = g := ⟨_, rfl⟩
  obtain ⟨ga, hga⟩ : ∃ g, w2.heap.size = g := ⟨_, rfl⟩
  have l1 := r1.lt
  have l2 := r2.lt
  have b3 : Below w.heap.size w w3 := (((Below.refl _ w).grown g1 (Nat.le_refl _) (by simp)).grown g2 g1.size (by simp)).grown g3 (by omega) (by simp)
  have k3 := (r1.grown g2 (by simp)).grown g3 (by simp)
  have e3 := r2.grown g3 (by simp)
  rw [hgr] at l1 l2 e3
  rw [hga] at l2 r3
  rw [hgr, hga]
  clear hgr hga r1 r2 g1 g2 g3 z1 z2 z3
  go_loopw [4] (fun i wr => ∃ k : Nat, k ≤ 16 ∧ i = .int .i64 k ∧ Below w.heap.size w wr ∧ Row wr w.heap.size 22 .u8 key ∧ Row wr gr 27 .u8 (List.replicate 16 0) ∧ Row wr ga 27 .u8 (blend (clamp key) (List.replicate 16 0) k)) (fun i _ => 16 - (intOf i).toNat)
  case atStart => exact ⟨0, by omega, rfl, b3, k3, e3, by rw [blend_zero]; exact r3⟩
  case round =>
    clear b3 k3 e3 r3
    obtain ⟨k, hk, rfl, hbl, kr, er, ar⟩ := hrel
    have hk0 : (0 : Int) ≤ (k : Int) := by omega
    by_cases hlt : k < 16
    · have hlt' : (k : Int) < 16 := by omega
      have hLen : (clamp key).length = (List.replicate 16 (0 : Int)).length := by rw [HL.out]; simp
      have hl16 : (blend (clamp key) (List.replicate 16 0) k).length = 16 := by rw [blend_length hLen]; simp
      have HSET := Lib.hid (blend_set hLen (i := k) (by simpa using hlt))
      have hcg := HCG.out k hlt
      rw [hcg] at HSET
      have ck := kr.cell (i := k) (by rw [HK.out]; omega)
      have hx := HKB.out k
      have hca : clampAt key k = if k % 4 = 3 then key.getD k 0 % 16 else if k = 4 ∨ k = 8 ∨ k = 12 then key.getD k 0 / 4 * 4 else key.getD k 0 := rfl
      have HL16 := Lib.hid hl16
      clear hl16 hLen hcg
      generalize clampAt key k = y at *
      generalize key.getD k 0 = x at *
      have hand := and_byte hx
      have w0 : (Lit.int .u8 x).wf = true := wf_byte hx
      obtain ⟨ha1, ha2, -, -⟩ := hand
      by_cases h3 : k % 4 = 3
      · rw [if_pos h3] at hca
        have h3' : (k : Int) % 4 = 3 := by omega
        have e4 : ((k : Int) == 4) = false := by simp; omega
        have e8 : ((k : Int) == 8) = false := by simp; omega
        have e12 : ((k : Int) == 12) = false := by simp; omega
        have w1' : (Lit.int .u8 (x % 16)).wf = true := wf_byte (by omega)
        go_wp2_with (first
          | (refine wpList_store_elem (w := wr) rfl 5 _ _ rfl ga k rfl 27 .u8 _ x rfl ar (by rw [HL16.out]; exact hlt) info_u8 w0 ?_; intro w4 q4 g4 z4; have c4 := q4.cell (i := k) (by rw [List.length_set, HL16.out]; exact hlt); rw [getD_set_self _ (by rw [HL16.out]; exact hlt)] at c4)
          | (refine wpList_store_elem (w := w4) rfl 5 _ _ rfl ga k rfl 27 .u8 _ (x % 16) rfl q4 (by rw [List.length_set, HL16.out]; exact hlt) info_u8 w1' ?_; intro w5 q5 g5 z5; rw [List.set_set, ← hca, HSET.out] at q5))
        go_roundw
        case rel => exact ⟨k + 1, by omega, by go_num, (hbl.grown g4 hbl.size (fun r e => by cases e; omega)).grown g5 (by have := hbl.size; have := g4.size; omega) (fun r e => by cases e; omega), (kr.grown g4 (by intro e; injection e with e; omega)).grown g5 (by intro e; injection e with e; omega), (er.grown g4 (by intro e; injection e with e; omega)).grown g5 (by intro e; injection e with e; omega), q5⟩
        case measure => simp [intOf]; omega
      · rw [if_neg h3] at hca
        have h3' : ¬ (k : Int) % 4 = 3 := by omega
        by_cases h4 : k = 4 ∨ k = 8 ∨ k = 12
        · rw [if_pos h4] at hca
          have e4 : ((k : Int) == 4 || (k : Int) == 8 || (k : Int) == 12) = true := by simp; omega
          have w1' : (Lit.int .u8 (x / 4 * 4)).wf = true := wf_byte (by omega)
          rcases h4 with rfl | rfl | rfl
          all_goals
            go_wp2_with (first
              | (refine wpList_store_elem (w := wr) rfl 5 _ _ rfl ga _ rfl 27 .u8 _ x rfl ar (by rw [HL16.out]; exact hlt) info_u8 w0 ?_; intro w4 q4 g4 z4; have c4 := q4.cell (i := _) (by rw [List.length_set, HL16.out]; exact hlt); rw [getD_set_self _ (by rw [HL16.out]; exact hlt)] at c4)
              | (refine wpList_store_elem (w := w4) rfl 5 _ _ rfl ga _ rfl 27 .u8 _ (x / 4 * 4) rfl q4 (by rw [List.length_set, HL16.out]; exact hlt) info_u8 w1' ?_; intro w5 q5 g5 z5; rw [List.set_set, ← hca, HSET.out] at q5))
            go_roundw
            case rel => exact ⟨_, by omega, by go_num, (hbl.grown g4 hbl.size (fun r e => by cases e; omega)).grown g5 (by have := hbl.size; have := g4.size; omega) (fun r e => by cases e; omega), (kr.grown g4 (by intro e; injection e with e; omega)).grown g5 (by intro e; injection e with e; omega), (er.grown g4 (by intro e; injection e with e; omega)).grown g5 (by intro e; injection e with e; omega), q5⟩
            case measure => simp [intOf]
        · rw [if_neg h4] at hca
          have e4 : ((k : Int) == 4) = false := by simp; omega
          have e8 : ((k : Int) == 8) = false := by simp; omega
          have e12 : ((k : Int) == 12) = false := by simp; omega
          go_wp2_with (refine wpList_store_elem (w := wr) rfl 5 _ _ rfl ga k rfl 27 .u8 _ x rfl ar (by rw [HL16.out]; exact hlt) info_u8 w0 ?_; intro w4 q4 g4 z4; rw [← hca, HSET.out] at q4)
          go_roundw
          case rel => exact ⟨k + 1, by omega, by go_num, hbl.grown g4 hbl.size (fun r e => by cases e; omega), kr.grown g4 (by intro e; injection e with e; omega), er.grown g4 (by intro e; injection e with e; omega), q4⟩
          case measure => simp [intOf]; omega
    · have hk16 : k = 16 := by omega
      subst hk16
      have hz : blend (clamp key) (List.replicate 16 0) 16 = clamp key := blend_all (F := clamp key) (a := List.replicate 16 0) (by rw [HL.out]; simp)
      rw [hz] at ar
      clear hz hk0 hlt
      go_wp2_with (first
        | (refine wpList_load_Row (w := wr) rfl 27 _ rfl ga rfl 27 .u8 _ ar 16 5 Tryd.underlying27 info_16b HL.out ?_)
        | (refine wpList_store_RowTo (w := wr) rfl 27 _ _ rfl gr rfl 27 .u8 _ (clamp key) rfl er 16 info_16b HL.out (by simp) HW.out ?_; intro w8 q8 g8 z8))
      refine bodyPost_ret (results_Row rfl _ _ gr _ _ _ rfl q8 16 5 Tryd.underlying27 info_16b HL.out) rfl ?_
      exact ⟨rfl, hbl.grown g8 hbl.size (fun r e => by cases e; omega)⟩

set_option maxRecDepth 100000 in
theorem rcarry_any (xs : List Int) (n : Int) (w : World) (hx : xs.length = 40) (hb : ∀ x ∈ xs, 0 ≤ x ∧ x < 16777216) (hv : val xs = n) :
    Calls Tryd.prog 24 #[.agg (arr .u32 xs)] w fun e w' => e = .returned (.agg (arr .u32 (digits n 40))) ∧ Below w.heap.size w w' := by
  have HF := Lib.hid (show carried 0 xs = digits n 40 by rw [carried_zero xs n hv, hx])
  have HX := Lib.hid hx
  have HL := Lib.hid ((carried_length 0 xs).trans hx)
  have HW := Lib.hid (show ∀ z ∈ carried 0 xs, (Lit.int .u32 z).wf = true from fun z hz => wf_32 (by have := carried_bytes 0 xs z hz; omega))
  have HO := Lib.hid (fun k => cout_bound hb k)
  have HOS := Lib.hid (fun k => show cout 0 xs (k + 1) = (cout 0 xs k + xs.getD k 0) / 256 from rfl)
  have HXB := Lib.hid (fun i => getD_range (P := fun x => 0 ≤ x ∧ x < 16777216) hb (by omega) i)
  have HCG := Lib.hid (fun k (h : k < 40) => carried_get 0 xs k (by omega))
  have hxw : ∀ z ∈ xs, (Lit.int .u32 z).wf = true := fun z hz => wf_32 (by have := hb z hz; omega)
  clear hx hb hv
  rw [← HF.out]
  go_enter Tryd.func24, Tryd.ntmps24
  go_wp2_with (first
    | (refine wpList_box_Row (w := w) rfl 55 _ rfl .u32 xs rfl hxw ?_; intro w1 r1 g1 z1)
    | (refine wpList_alloc_Row (w := w1) rfl 55 rfl .u32 40 zero_forty ?_; intro w2 r2 g2 z2))
  obtain ⟨gr, hgr⟩ : ∃ g, w1.heap.size = g := ⟨_, rfl⟩
  have l1 := r1.lt
  have b2 : Below w.heap.size w w2 := ((Below.refl _ w).grown g1 (Nat.le_refl _) (by simp)).grown g2 g1.size (by simp)
  have p2 := r1.grown g2 (by simp)
  rw [hgr] at l1 r2 ⊢
  clear hgr r1 g1 g2 z1 z2
  go_loopw [3, 4] (fun c i wr => ∃ k : Nat, k ≤ 40 ∧ i = .int .i64 k ∧ c = .int .u32 (cout 0 xs k) ∧ Below w.heap.size w wr ∧ Row wr w.heap.size 55 .u32 (blend (carried 0 xs) xs k) ∧ Row wr gr 55 .u32 (List.replicate 40 0)) (fun _ i _ => 40 - (intOf i).toNat)
  case atStart => exact ⟨0, by omega, rfl, rfl, b2, by rw [blend_zero]; exact p2, r2⟩
  case round =>
    clear b2 p2 r2
    obtain ⟨k, hk, rfl, rfl, hbl, nr, er⟩ := hrel
    have hk0 : (0 : Int) ≤ (k : Int) := by omega
    by_cases hlt : k < 40
    · have hlt' : (k : Int) < 40 := by omega
      have hLen : (carried 0 xs).length = xs.length := by rw [HL.out, HX.out]
      have hl40 : (blend (carried 0 xs) xs k).length = 40 := by rw [blend_length hLen, HX.out]
      have c0 := nr.cell (i := k) (by rw [hl40]; exact hlt)
      rw [blend_get hLen (by rw [HX.out]; exact hlt)] at c0
      have HSET := Lib.hid (blend_set hLen (i := k) (by rw [HX.out]; exact hlt))
      rw [HCG.out k hlt] at HSET
      have HNX := Lib.hid (HOS.out k)
      have ho := HO.out k
      have hx := HXB.out k
      generalize xs.getD k 0 = x at *
      generalize cout 0 xs k = c at *
      have hadd : IntKind.u32.wrap (c + x) = c + x := IntWalk.u32_in _ (by omega)
      have hadd2 : (c + x) % 4294967296 = c + x := by omega
      have hand := mask_byte (c + x) (by omega) (by omega)
      have w0 : (Lit.int .u32 ((c + x) % 256)).wf = true := wf_32 (by omega)
      have HL40 := Lib.hid hl40
      clear hl40 hLen
      go_wp2_with (refine wpList_store_elem (w := wr) rfl 53 _ _ rfl w.heap.size k rfl 55 .u32 _ ((c + x) % 256) rfl nr (by rw [HL40.out]; exact hlt) info_u32 w0 ?_; intro w4 q4 g4 z4; rw [HSET.out] at q4)
      go_roundw
      case rel => exact ⟨k + 1, by omega, by go_num, by rw [HNX.out], hbl.grown g4 hbl.size (fun r e => by cases e; omega), q4, er.grown g4 (by intro e; injection e with e; omega)⟩
      case measure => simp [intOf]; omega
    · have hk40 : k = 40 := by omega
      subst hk40
      have hz : blend (carried 0 xs) xs 40 = carried 0 xs := by
        have := blend_all (F := carried 0 xs) (a := xs) (by rw [HL.out, HX.out])
        rwa [HX.out] at this
      rw [hz] at nr
      clear hz hk0 hlt
      go_wp2_with (first
        | (refine wpList_load_Row (w := wr) rfl 55 _ rfl w.heap.size rfl 55 .u32 _ nr 40 53 Tryd.underlying55 info_forty HL.out ?_)
        | (refine wpList_store_RowTo (w := wr) rfl 55 _ _ rfl gr rfl 55 .u32 _ (carried 0 xs) rfl er 40 info_forty HL.out (by simp) HW.out ?_; intro w8 q8 g8 z8))
      refine bodyPost_ret (results_Row rfl _ _ gr _ _ _ rfl q8 40 53 Tryd.underlying55 info_forty HL.out) rfl ?_
      exact ⟨rfl, hbl.grown g8 hbl.size (fun r e => by cases e; omega)⟩
end Go.Proofs.YtebkicikpeicmaaDoor.Po

