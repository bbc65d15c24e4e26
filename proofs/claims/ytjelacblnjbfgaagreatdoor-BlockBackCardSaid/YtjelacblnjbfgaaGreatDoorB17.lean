/-
  The document's own Clamp and carry, each by its contract.
  The document's own reduce and least, each by its contract.
  The document's own least by its contract.
  What the document's own Tag adds and multiplies, place by place: no program here.
-/
import Derived.Test.YtjelacblnjbfgaaGreatDoorB14
import Derived.Test.YtjelacblnjbfgaaGreatDoorB16
set_option linter.unusedVariables false
namespace Go.Proofs.YtjelacblnjbfgaaGreatDoor.Po
open Go.RowKit Go.Shelf Mem Go.Proofs.YtjelacblnjbfgaaGreatDoor.Sum
attribute [local irreducible] wpList wpListIn
theorem info_forty : (Tryz.prog.info? 129).map (·.size) = some 40 := by kernel_rfl
theorem info_u32 : (Tryz.prog.info? 57).map (·.size) = some 1 := by kernel_rfl
theorem zero_forty : (Tryz.prog.info? 129).bind (·.zero) = some (.agg (arr .u32 (List.replicate 40 0))) := by kernel_rfl
theorem getD_set_self (l : List Int) {i : Nat} (h : i < l.length) (x : Int) : (l.set i x).getD i 0 = x := by simp [List.getD_eq_getElem?_getD, h]
theorem clamp_get (key : List Int) {i : Nat} (hi : i < 16) : (clamp key).getD i 0 = clampAt key i := by simp [clamp, List.getD_eq_getElem?_getD, hi]
set_option maxRecDepth 100000 in
theorem rclamp_any (key : List Int) (w : World) (hk : key.length = 32) (hkb : Bs key) :
    Calls Tryz.prog 93 #[.agg (arr .u8 key)] w fun e w' => e = .returned (.agg (arr .u8 (clamp key))) ∧ Below w.heap.size w w' := by
  have HK := Lib.hid hk
  have HL := Lib.hid (clamp_length key)
  have HW := Lib.hid (bs_wf (clamp_bytes hkb))
  have HKB := Lib.hid (fun i => hkb.at_ i)
  have HCG := Lib.hid (fun i (h : i < 16) => clamp_get key h)
  clear hk
  go_enter Tryz.func93, Tryz.ntmps93
  go_wp2_with (first
    | (refine wpList_box_Row (w := w) rfl 22 _ rfl .u8 key rfl (bs_wf hkb) ?_; intro w1 r1 g1 z1)
    | (refine wpList_alloc_Row (w := w1) rfl 58 rfl .u8 16 zero_16b ?_; intro w2 r2 g2 z2)
    | (refine wpList_alloc_Row (w := w2) rfl 58 rfl .u8 16 zero_16b ?_; intro w3 r3 g3 z3))
  obtain ⟨gr, hgr⟩ : ∃ g, w1.heap.size = g := ⟨_, rfl⟩
  obtain ⟨ga, hga⟩ : ∃ g, w2.heap.size = g := ⟨_, rfl⟩
  have l1 := r1.lt
  have l2 := r2.lt
  have b3 : Below w.heap.size w w3 := (((Below.refl _ w).grown g1 (Nat.le_refl _) (by simp)).grown g2 g1.size (by simp)).grown g3 (by omega) (by simp)
  have k3 := (r1.grown g2 (by simp)).grown g3 (by simp)
  have e3 := r2.grown g3 (by simp)
  rw [hgr] at l1 l2 e3
  rw [hga] at l2 r3
  rw [hgr, hga]
  clear hgr hga r1 r2 g1 g2 g3 z1 z2 z3
  go_loopw [4] (fun i wr => ∃ k : Nat, k ≤ 16 ∧ i = .int .i64 k ∧ Below w.heap.size w wr ∧ Row wr w.heap.size 22 .u8 key ∧ Row wr gr 58 .u8 (List.replicate 16 0) ∧ Row wr ga 58 .u8 (blend (clamp key) (List.replicate 16 0) k)) (fun i _ => 16 - (intOf i).toNat)
  case atStart => exact ⟨0, by omega, rfl, b3, k3, e3, by rw [blend_zero]; exact r3⟩
  case round =>
    clear b3 k3 e3 r3
    obtain ⟨k, hk, rfl, hbl, kr, er, ar⟩ := hrel
    have hk0 : (0 : Int) ≤ (k : Int) := by omega
    by_cases hlt : k < 16
    · have hlt' : (k : Int) < 16 := by omega
      have hLen : (clamp key).length = (List.replicate 16 (0 : Int)).length := by rw [HL.out]; simp
      have hl16 : (blend (clamp key) (List.replicate 16 0) k).length = 16 := by rw [blend_length hLen]; simp
      have HSET := Lib.hid (blend_set hLen (i := k) (by simpa using hlt))
      have hcg := HCG.out k hlt
      rw [hcg] at HSET
      have ck := kr.cell (i := k) (by rw [HK.out]; omega)
      have hx := HKB.out k
      have hca : clampAt key k = if k % 4 = 3 then key.getD k 0 % 16 else if k = 4 ∨ k = 8 ∨ k = 12 then key.getD k 0 / 4 * 4 else key.getD k 0 := rfl
      have HL16 := Lib.hid hl16
      clear hl16 hLen hcg
      generalize clampAt key k = y at *
      generalize key.getD k 0 = x at *
      have hand := and_byte hx
      have w0 : (Lit.int .u8 x).wf = true := wf_byte hx
      obtain ⟨ha1, ha2, -, -⟩ := hand
      by_cases h3 : k % 4 = 3
      · rw [if_pos h3] at hca
        have h3' : (k : Int) % 4 = 3 := by omega
        have e4 : ((k : Int) == 4) = false := by simp; omega
        have e8 : ((k : Int) == 8) = false := by simp; omega
        have e12 : ((k : Int) == 12) = false := by simp; omega
        have w1' : (Lit.int .u8 (x % 16)).wf = true := wf_byte (by omega)
        go_wp2_with (first
          | (refine wpList_store_elem (w := wr) rfl 5 _ _ rfl ga k rfl 58 .u8 _ x rfl ar (by rw [HL16.out]; exact hlt) info_u8 w0 ?_; intro w4 q4 g4 z4; have c4 := q4.cell (i := k) (by rw [List.length_set, HL16.out]; exact hlt); rw [getD_set_self _ (by rw [HL16.out]; exact hlt)] at c4)
          | (refine wpList_store_elem (w := w4) rfl 5 _ _ rfl ga k rfl 58 .u8 _ (x % 16) rfl q4 (by rw [List.length_set, HL16.out]; exact hlt) info_u8 w1' ?_; intro w5 q5 g5 z5; rw [List.set_set, ← hca, HSET.out] at q5))
        go_roundw
        case rel => exact ⟨k + 1, by omega, by go_num, (hbl.grown g4 hbl.size (fun r e => by cases e; omega)).grown g5 (by have := hbl.size; have := g4.size; omega) (fun r e => by cases e; omega), (kr.grown g4 (by intro e; injection e with e; omega)).grown g5 (by intro e; injection e with e; omega), (er.grown g4 (by intro e; injection e with e; omega)).grown g5 (by intro e; injection e with e; omega), q5⟩
        case measure => simp [intOf]; omega
      · rw [if_neg h3] at hca
        have h3' : ¬ (k : Int) % 4 = 3 := by omega
        by_cases h4 : k = 4 ∨ k = 8 ∨ k = 12
        · rw [if_pos h4] at hca
          have e4 : ((k : Int) == 4 || (k : Int) == 8 || (k : Int) == 12) = true := by simp; omega
          have w1' : (Lit.int .u8 (x / 4 * 4)).wf = true := wf_byte (by omega)
          rcases h4 with rfl | rfl | rfl
          all_goals
            go_wp2_with (first
              | (refine wpList_store_elem (w := wr) rfl 5 _ _ rfl ga _ rfl 58 .u8 _ x rfl ar (by rw [HL16.out]; exact hlt) info_u8 w0 ?_; intro w4 q4 g4 z4; have c4 := q4.cell (i := _) (by rw [List.length_set, HL16.out]; exact hlt); rw [getD_set_self _ (by rw [HL16.out]; exact hlt)] at c4)
              | (refine wpList_store_elem (w := w4) rfl 5 _ _ rfl ga _ rfl 58 .u8 _ (x / 4 * 4) rfl q4 (by rw [List.length_set, HL16.out]; exact hlt) info_u8 w1' ?_; intro w5 q5 g5 z5; rw [List.set_set, ← hca, HSET.out] at q5))
            go_roundw
            case rel => exact ⟨_, by omega, by go_num, (hbl.grown g4 hbl.size (fun r e => by cases e; omega)).grown g5 (by have := hbl.size; have := g4.size; omega) (fun r e => by cases e; omega), (kr.grown g4 (by intro e; injection e with e; omega)).grown g5 (by intro e; injection e with e; omega), (er.grown g4 (by intro e; injection e with e; omega)).grown g5 (by intro e; injection e with e; omega), q5⟩
            case measure => simp [intOf]
        · rw [if_neg h4] at hca
          have e4 : ((k : Int) == 4) = false := by simp; omega
          have e8 : ((k : Int) == 8) = false := by simp; omega
          have e12 : ((k : Int) == 12) = false := by simp; omega
          go_wp2_with (refine wpList_store_elem (w := wr) rfl 5 _ _ rfl ga k rfl 58 .u8 _ x rfl ar (by rw [HL16.out]; exact hlt) info_u8 w0 ?_; intro w4 q4 g4 z4; rw [← hca, HSET.out] at q4)
          go_roundw
          case rel => exact ⟨k + 1, by omega, by go_num, hbl.grown g4 hbl.size (fun r e => by cases e; omega), kr.grown g4 (by intro e; injection e with e; omega), er.grown g4 (by intro e; injection e with e; omega), q4⟩
          case measure => simp [intOf]; omega
    · have hk16 : k = 16 := by omega
      subst hk16
      have hz : blend (clamp key) (List.replicate 16 0) 16 = clamp key := blend_all (F := clamp key) (a := List.replicate 16 0) (by rw [HL.out]; simp)
      rw [hz] at ar
      clear hz hk0 hlt
      go_wp2_with (first
        | (refine wpList_load_Row (w := wr) rfl 58 _ rfl ga rfl 58 .u8 _ ar 16 5 Tryz.underlying58 info_16b HL.out ?_)
        | (refine wpList_store_RowTo (w := wr) rfl 58 _ _ rfl gr rfl 58 .u8 _ (clamp key) rfl er 16 info_16b HL.out (by simp) HW.out ?_; intro w8 q8 g8 z8))
      refine bodyPost_ret (results_Row rfl _ _ gr _ _ _ rfl q8 16 5 Tryz.underlying58 info_16b HL.out) rfl ?_
      exact ⟨rfl, hbl.grown g8 hbl.size (fun r e => by cases e; omega)⟩
set_option maxRecDepth 100000 in
theorem rcarry_any (xs : List Int) (n : Int) (w : World) (hx : xs.length = 40) (hb : ∀ x ∈ xs, 0 ≤ x ∧ x < 16777216) (hv : val xs = n) :
    Calls Tryz.prog 94 #[.agg (arr .u32 xs)] w fun e w' => e = .returned (.agg (arr .u32 (digits n 40))) ∧ Below w.heap.size w w' := by
  have HF := Lib.hid (show carried 0 xs = digits n 40 by rw [carried_zero xs n hv, hx])
  have HX := Lib.hid hx
  have HL := Lib.hid ((carried_length 0 xs).trans hx)
  have HW := Lib.hid (show ∀ z ∈ carried 0 xs, (Lit.int .u32 z).wf = true from fun z hz => wf_32 (by have := carried_bytes 0 xs z hz; omega))
  have HO := Lib.hid (fun k => cout_bound hb k)
  have HOS := Lib.hid (fun k => show cout 0 xs (k + 1) = (cout 0 xs k + xs.getD k 0) / 256 from rfl)
  have HXB := Lib.hid (fun i => getD_range (P := fun x => 0 ≤ x ∧ x < 16777216) hb (by omega) i)
  have HCG := Lib.hid (fun k (h : k < 40) => carried_get 0 xs k (by omega))
  have hxw : ∀ z ∈ xs, (Lit.int .u32 z).wf = true := fun z hz => wf_32 (by have := hb z hz; omega)
  clear hx hb hv
  rw [← HF.out]
  go_enter Tryz.func94, Tryz.ntmps94
  go_wp2_with (first
    | (refine wpList_box_Row (w := w) rfl 129 _ rfl .u32 xs rfl hxw ?_; intro w1 r1 g1 z1)
    | (refine wpList_alloc_Row (w := w1) rfl 129 rfl .u32 40 zero_forty ?_; intro w2 r2 g2 z2))
  obtain ⟨gr, hgr⟩ : ∃ g, w1.heap.size = g := ⟨_, rfl⟩
  have l1 := r1.lt
  have b2 : Below w.heap.size w w2 := ((Below.refl _ w).grown g1 (Nat.le_refl _) (by simp)).grown g2 g1.size (by simp)
  have p2 := r1.grown g2 (by simp)
  rw [hgr] at l1 r2 ⊢
  clear hgr r1 g1 g2 z1 z2
  go_loopw [3, 4] (fun c i wr => ∃ k : Nat, k ≤ 40 ∧ i = .int .i64 k ∧ c = .int .u32 (cout 0 xs k) ∧ Below w.heap.size w wr ∧ Row wr w.heap.size 129 .u32 (blend (carried 0 xs) xs k) ∧ Row wr gr 129 .u32 (List.replicate 40 0)) (fun _ i _ => 40 - (intOf i).toNat)
  case atStart => exact ⟨0, by omega, rfl, rfl, b2, by rw [blend_zero]; exact p2, r2⟩
  case round =>
    clear b2 p2 r2
    obtain ⟨k, hk, rfl, rfl, hbl, nr, er⟩ := hrel
    have hk0 : (0 : Int) ≤ (k : Int) := by omega
    by_cases hlt : k < 40
    · have hlt' : (k : Int) < 40 := by omega
      have hLen : (carried 0 xs).length = xs.length := by rw [HL.out, HX.out]
      have hl40 : (blend (carried 0 xs) xs k).length = 40 := by rw [blend_length hLen, HX.out]
      have c0 := nr.cell (i := k) (by rw [hl40]; exact hlt)
      rw [blend_get hLen (by rw [HX.out]; exact hlt)] at c0
      have HSET := Lib.hid (blend_set hLen (i := k) (by rw [HX.out]; exact hlt))
      rw [HCG.out k hlt] at HSET
      have HNX := Lib.hid (HOS.out k)
      have ho := HO.out k
      have hx := HXB.out k
      generalize xs.getD k 0 = x at *
      generalize cout 0 xs k = c at *
      have hadd : IntKind.u32.wrap (c + x) = c + x := IntWalk.u32_in _ (by omega)
      have hadd2 : (c + x) % 4294967296 = c + x := by omega
      have hand := mask_byte (c + x) (by omega) (by omega)
      have w0 : (Lit.int .u32 ((c + x) % 256)).wf = true := wf_32 (by omega)
      have HL40 := Lib.hid hl40
      clear hl40 hLen
      go_wp2_with (refine wpList_store_elem (w := wr) rfl 57 _ _ rfl w.heap.size k rfl 129 .u32 _ ((c + x) % 256) rfl nr (by rw [HL40.out]; exact hlt) info_u32 w0 ?_; intro w4 q4 g4 z4; rw [HSET.out] at q4)
      go_roundw
      case rel => exact ⟨k + 1, by omega, by go_num, by rw [HNX.out], hbl.grown g4 hbl.size (fun r e => by cases e; omega), q4, er.grown g4 (by intro e; injection e with e; omega)⟩
      case measure => simp [intOf]; omega
    · have hk40 : k = 40 := by omega
      subst hk40
      have hz : blend (carried 0 xs) xs 40 = carried 0 xs := by
        have := blend_all (F := carried 0 xs) (a := xs) (by rw [HL.out, HX.out])
        rwa [HX.out] at this
      rw [hz] at nr
      clear hz hk0 hlt
      go_wp2_with (first
        | (refine wpList_load_Row (w := wr) rfl 129 _ rfl w.heap.size rfl 129 .u32 _ nr 40 57 Tryz.underlying129 info_forty HL.out ?_)
        | (refine wpList_store_RowTo (w := wr) rfl 129 _ _ rfl gr rfl 129 .u32 _ (carried 0 xs) rfl er 40 info_forty HL.out (by simp) HW.out ?_; intro w8 q8 g8 z8))
      refine bodyPost_ret (results_Row rfl _ _ gr _ _ _ rfl q8 40 57 Tryz.underlying129 info_forty HL.out) rfl ?_
      exact ⟨rfl, hbl.grown g8 hbl.size (fun r e => by cases e; omega)⟩
end Go.Proofs.YtjelacblnjbfgaaGreatDoor.Po
namespace Go.Proofs.YtjelacblnjbfgaaGreatDoor.Po
open Go.RowKit Go.Shelf Mem Go.Proofs.YtjelacblnjbfgaaGreatDoor.Sum
attribute [local irreducible] wpList wpListIn
theorem blend_same {F a : List Int} (h : F.length = a.length) {i : Nat} (hi : i < a.length) (he : F.getD i 0 = a.getD i 0) : blend F a (i + 1) = blend F a i := by
  rw [← blend_set h hi, he, ← blend_get h hi]
  apply List.ext_getElem
  · simp
  · intro j h1 h2
    rw [List.getElem_set]
    split
    · rename_i e
      subst e
      rw [List.getD_eq_getElem?_getD, List.getElem?_eq_getElem h2]
      rfl
    · rfl
theorem bytes32 {xs : List Int} (h : Bs xs) : ∀ z ∈ xs, (Lit.int .u32 z).wf = true := fun z hz => wf_32 (by have := h z hz; omega)
theorem lowL_get {D : List Int} (h : D.length = 40) {i : Nat} (hi : i < 40) : (lowL D).getD i 0 = if i < 16 then D.getD i 0 else if i = 16 then D.getD 16 0 % 4 else 0 := by
  have e : (D.take 16).length = 16 := by simp [h]
  simp only [lowL, List.getD_eq_getElem?_getD]
  by_cases h1 : i < 16
  · rw [List.getElem?_append_left (by omega), if_pos h1, List.getElem?_take, if_pos h1]
  · rw [List.getElem?_append_right (by omega), if_neg h1, e]
    by_cases h2 : i = 16
    · subst h2
      rfl
    · rw [if_neg h2, show i - 16 = (i - 17) + 1 by omega, List.getElem?_cons_succ, List.getElem?_replicate, if_pos (by omega)]
      rfl
theorem highL_get (D : List Int) {j : Nat} (hj : j < 24) : (highL D).getD j 0 = highAt D j := by
  simp only [highL, List.getD_eq_getElem?_getD]
  rw [List.getElem?_append_left (by simpa using hj)]
  simp [hj]
theorem or_high (x y : Int) (hx : 0 ≤ x ∧ x ≤ 255) (hy : 0 ≤ y ∧ y ≤ 255) : bits .or .u32 (x / 4) (y * 64 % 256) = x / 4 + y * 64 % 256 :=
  bits_join_low .u32 32 (by decide) (fun n h1 h2 => wraps_u32 n h1 h2) 6 (x / 4) (y * 64 % 256) (by omega) (by omega) (by omega) (by omega) (by omega) (by omega)
set_option maxRecDepth 100000 in
set_option maxHeartbeats 1000000 in
theorem rreduce_any (n : Int) (w : World) (h0 : 0 ≤ n) (hn : n < 2 ^ 300) :
    Calls Tryz.prog 95 #[.agg (arr .u32 (digits n 40))] w fun e w' => e = .returned (.agg (arr .u32 (digits (reds n 4) 40))) ∧ Below w.heap.size w w' := by
  have HB := Lib.hid (fun k => reds_bound h0 hn k)
  have HDW := Lib.hid (fun m : Int => bytes32 (digits_bytes 40 m))
  have HDL := Lib.hid (fun m : Int => digits_length 40 m)
  have hdw := HDW.out n
  go_enter Tryz.func95, Tryz.ntmps95
  go_wp2_with (first
    | (refine wpList_box_Row (w := w) rfl 129 _ rfl .u32 (digits n 40) rfl hdw ?_; intro w1 r1 g1 z1)
    | (refine wpList_alloc_Row (w := w1) rfl 129 rfl .u32 40 zero_forty ?_; intro w2 r2 g2 z2))
  obtain ⟨gr, hgr⟩ : ∃ g, w1.heap.size = g := ⟨_, rfl⟩
  have l1 := r1.lt
  have b2 : Below w.heap.size w w2 := ((Below.refl _ w).grown g1 (Nat.le_refl _) (by simp)).grown g2 g1.size (by simp)
  have p2 := r1.grown g2 (by simp)
  rw [hgr] at l1 r2 ⊢
  clear hgr r1 g1 g2 z1 z2
  go_loopw [3] (fun i wr => ∃ k : Nat, k ≤ 4 ∧ i = .int .i64 k ∧ Below w.heap.size w wr ∧ Row wr w.heap.size 129 .u32 (digits (reds n k) 40) ∧ Row wr gr 129 .u32 (List.replicate 40 0)) (fun i _ => 4 - (intOf i).toNat)
  case atStart => exact ⟨0, by omega, rfl, b2, p2, r2⟩
  case round =>
    clear b2 p2 r2
    obtain ⟨k, hk, rfl, hbl, ar, er⟩ := hrel
    have hk0 : (0 : Int) ≤ (k : Int) := by omega
    by_cases hlt : k < 4
    · have hlt' : (k : Int) < 4 := by omega
      have hb4 := HB.out k
      have HRED := Lib.hid (show reds n (k + 1) = red (reds n k) from rfl)
      generalize reds n k = m at *
      have HFV := Lib.hid (fold_val hb4.1 (show m < 256 ^ 40 by omega))
      have HD := HDL.out m
      have HDB := Lib.hid (digits_bytes 40 m)
      generalize digits m 40 = D at *
      have HLL := Lib.hid (lowL_length HD)
      have HHL := Lib.hid (highL_length D)
      have HLG := Lib.hid (fun i (h : i < 40) => lowL_get HD h)
      have HHG := Lib.hid (fun j (h : j < 24) => highL_get D h)
      have HDG := Lib.hid (fun i => HDB.out.at_ i)
      have HD40 := Lib.hid (show D.getD 40 0 = 0 by rw [List.getD_eq_getElem?_getD, List.getElem?_eq_none (by omega)]; rfl)
      have HLW := Lib.hid (bytes32 (lowL_bytes HDB.out))
      have HHW := Lib.hid (bytes32 (highL_bytes HDB.out))
      have HFL := Lib.hid (fold_length HD)
      have HFG := Lib.hid (fun i (h : i < 40) => fold_get HD h)
      have HFB := Lib.hid (fold_bound HDB.out)
      have HLB := Lib.hid (fun i => (lowL_bytes HDB.out).at_ i)
      have HHB := Lib.hid (fun i => (highL_bytes HDB.out).at_ i)
      have HDX := Lib.hid HD
      clear HD
      go_wp2_with (first
        | (refine wpList_alloc_Row (w := wr) rfl 129 rfl .u32 40 zero_forty ?_; intro w3 r3 g3 z3)
        | (refine wpList_alloc_Row (w := w3) rfl 129 rfl .u32 40 zero_forty ?_; intro w4 r4 g4 z4))
      obtain ⟨gh, hgh⟩ : ∃ g, wr.heap.size = g := ⟨_, rfl⟩
      obtain ⟨gl, hgl⟩ : ∃ g, w3.heap.size = g := ⟨_, rfl⟩
      have l3 := r3.lt
      have le := er.lt
      have b4 : Below w.heap.size w w4 := (hbl.grown g3 hbl.size (by simp)).grown g4 (by have := hbl.size; have := g3.size; omega) (by simp)
      have a4 := (ar.grown g3 (by simp)).grown g4 (by simp)
      have e4 := (er.grown g3 (by simp)).grown g4 (by simp)
      have h4 := r3.grown g4 (by simp)
      rw [hgh] at l3 le h4
      rw [hgl] at l3 r4
      rw [hgh, hgl]
      clear hgh hgl r3 g3 g4 z3 z4 hbl ar er w3
      go_loopw [6] (fun i wr => ∃ q : Nat, q ≤ 40 ∧ i = .int .i64 q ∧ Below w.heap.size w wr ∧ Row wr w.heap.size 129 .u32 D ∧ Row wr gr 129 .u32 (List.replicate 40 0) ∧ Row wr gl 129 .u32 (blend (lowL D) (List.replicate 40 0) q) ∧ Row wr gh 129 .u32 (blend (highL D) (List.replicate 40 0) (q - 16))) (fun i _ => 40 - (intOf i).toNat)
      case atStart => exact ⟨0, by omega, rfl, b4, a4, e4, by rw [blend_zero]; exact r4, by rw [Nat.zero_sub, blend_zero]; exact h4⟩
      case round =>
        clear b4 a4 e4 r4 h4
        obtain ⟨q, hq, rfl, hbl, ar, er, lr, hr⟩ := hrel
        have hq0 : (0 : Int) ≤ (q : Int) := by omega
        by_cases hlq : q < 40
        · have hlq' : (q : Int) < 40 := by omega
          have hLen : (lowL D).length = (List.replicate 40 (0 : Int)).length := by rw [HLL.out]; simp
          have hHen : (highL D).length = (List.replicate 40 (0 : Int)).length := by rw [HHL.out]; simp
          have hl40 : (blend (lowL D) (List.replicate 40 0) q).length = 40 := by rw [blend_length hLen]; simp
          have hh40 : (blend (highL D) (List.replicate 40 0) (q - 16)).length = 40 := by rw [blend_length hHen]; simp
          have ca := ar.cell (i := q) (by rw [HDX.out]; exact hlq)
          have hx := HDG.out q
          have HSL := Lib.hid (blend_set hLen (i := q) (by simpa using hlq))
          have hlg := HLG.out q hlq
          have HL40 := Lib.hid hl40
          have HH40 := Lib.hid hh40
          by_cases h16 : q < 16
          · rw [if_pos h16] at hlg
            rw [hlg] at HSL
            have h16' : (q : Int) < 16 := by omega
            rw [show q - 16 = 0 by omega] at hr
            have HQ := Lib.hid (show q + 1 - 16 = 0 by omega)
            clear hlg hl40 hh40 hLen hHen
            generalize D.getD q 0 = x at *
            have w0 : (Lit.int .u32 x).wf = true := wf_32 (by omega)
            go_wp2_with (refine wpList_store_elem (w := wr) rfl 57 _ _ rfl gl q rfl 129 .u32 _ x rfl lr (by rw [HL40.out]; exact hlq) info_u32 w0 ?_; intro w5 q5 g5 z5; rw [HSL.out] at q5)
            go_roundw
            case rel => exact ⟨q + 1, by omega, by go_num, hbl.grown g5 hbl.size (fun r e => by cases e; omega), ar.grown g5 (by intro e; injection e with e; omega), er.grown g5 (by intro e; injection e with e; omega), q5, by rw [HQ.out]; exact hr.grown g5 (by intro e; injection e with e; omega)⟩
            case measure => simp [intOf]; omega
          · rw [if_neg h16] at hlg
            have h16' : ¬ (q : Int) < 16 := by omega
            have h16g : (16 : Int) ≤ (q : Int) := by omega
            obtain ⟨j, hj⟩ : ∃ j, q - 16 = j := ⟨_, rfl⟩
            have hqj : q = j + 16 := by omega
            rw [hj] at hr HH40
            have HJ1 := Lib.hid (show q + 1 - 16 = j + 1 by omega)
            have hj24 : j < 24 := by omega
            have HSH := Lib.hid (blend_set hHen (i := j) (by simp; omega))
            rw [HHG.out j hj24] at HSH
            have hix : (q : Int) - 16 = (j : Int) := by omega
            have HCA := Lib.hid (fun W (hW : Row W w.heap.size 129 .u32 D) => show W.cell? ⟨w.heap.size, q, none⟩ = some (.int .u32 (D.getD q 0)) from hW.cell (by rw [HDX.out]; exact hlq))
            have HCB := Lib.hid (fun W (hW : Row W w.heap.size 129 .u32 D) (h : q < 39) => show W.cell? ⟨w.heap.size, q + 1, none⟩ = some (.int .u32 (D.getD (q + 1) 0)) from hW.cell (by rw [HDX.out]; omega))
            have hy := HDG.out (q + 1)
            have HAT := Lib.hid (show highAt D j = D.getD q 0 / 4 + D.getD (q + 1) 0 * 64 % 256 by unfold highAt; rw [show 16 + j = q by omega, show 17 + j = q + 1 by omega])
            have hor := or_high _ _ hx hy
            have hand := mask_byte (D.getD (q + 1) 0 * 64) (by omega) (by omega)
            have hwr : IntKind.u32.wrap (D.getD (q + 1) 0 * 64) = D.getD (q + 1) 0 * 64 := IntWalk.u32_in _ (by omega)
            have hwr2 : D.getD (q + 1) 0 * 64 % 4294967296 = D.getD (q + 1) 0 * 64 := by omega
            have wh : (Lit.int .u32 (D.getD q 0 / 4 + D.getD (q + 1) 0 * 64 % 256)).wf = true := wf_32 (by omega)
            rw [HAT.out] at HSH
            by_cases e16 : q = 16
            · rw [if_pos e16] at hlg
              have hlg' : (lowL D).getD q 0 = D.getD q 0 % 4 := by rw [hlg, e16]
              rw [hlg'] at HSL
              have hm2 := mask_two (D.getD q 0) (by omega) (by omega)
              clear hlg hlg' hl40 hh40 hLen hHen HAT hy
              have w0 : (Lit.int .u32 (D.getD q 0 % 4)).wf = true := wf_32 (by omega)
              generalize D.getD q 0 = x at *
              generalize D.getD (q + 1) 0 = y at *
              obtain rfl : j = 0 := by omega
              subst e16
              clear hix hqj hj h16 h16' h16g hq0 hlq' hj24
              go_wp2_with (first
                | (refine wpList_store_elem (w := wr) rfl 57 _ _ rfl gl 16 rfl 129 .u32 _ (x % 4) rfl lr (by rw [HL40.out]; omega) info_u32 w0 ?_; intro w5 q5 g5 z5; rw [HSL.out] at q5; have ar5 := ar.grown g5 (by intro e; injection e with e; omega); have hr5 := hr.grown g5 (by intro e; injection e with e; omega); have ca5 := HCA.out w5 ar5; have cb5 := HCB.out w5 ar5 (by omega); simp only [Nat.reduceAdd] at cb5)
                | (refine wpList_store_elem (w := w5) rfl 57 _ _ rfl gh 0 rfl 129 .u32 _ (x / 4 + y * 64 % 256) rfl hr5 (by rw [HH40.out]; omega) info_u32 wh ?_; intro w6 q6 g6 z6; rw [HSH.out] at q6))
              go_roundw
              case rel => exact ⟨17, by omega, by go_num, (hbl.grown g5 hbl.size (fun r e => by cases e; omega)).grown g6 (by have := hbl.size; have := g5.size; omega) (fun r e => by cases e; omega), ar5.grown g6 (by intro e; injection e with e; omega), (er.grown g5 (by intro e; injection e with e; omega)).grown g6 (by intro e; injection e with e; omega), q5.grown g6 (by intro e; injection e with e; omega), q6⟩
              case measure => simp [intOf]
            · rw [if_neg e16] at hlg
              have e16' : ¬ (q : Int) = 16 := by omega
              have b16 : ((q : Int) == 16) = false := by simp; omega
              have HSAME := Lib.hid (blend_same hLen (i := q) (by simpa using hlq) (by rw [hlg, List.getD_eq_getElem?_getD, List.getElem?_replicate, if_pos hlq]; rfl))
              by_cases e39 : q = 39
              · have hy0 : D.getD (q + 1) 0 = 0 := by rw [e39]; exact HD40.out
                have hsh' := HSH.out
                rw [hy0, show D.getD q 0 / 4 + 0 * 64 % 256 = D.getD q 0 / 4 by omega] at hsh'
                rw [hy0, show D.getD q 0 / 4 + 0 * 64 % 256 = D.getD q 0 / 4 by omega, show (0 : Int) * 64 % 256 = 0 from rfl] at hor
                have hand0 : bits .and .u32 0 255 = 0 := by decide
                have wh' : (Lit.int .u32 (D.getD q 0 / 4)).wf = true := wf_32 (by omega)
                have HSH' := Lib.hid hsh'
                clear hsh' HSH wh hlg hl40 hh40 hLen hHen HAT hy HCB HCA hwr hwr2 hy0 hand
                generalize D.getD q 0 = x at *
                obtain rfl : j = 23 := by omega
                subst e39
                clear hix hqj hj h16 h16' h16g hq0 hlq' e16' e16 b16 hj24
                go_wp2_with (refine wpList_store_elem (w := wr) rfl 57 _ _ rfl gh 23 rfl 129 .u32 _ (x / 4) rfl hr (by rw [HH40.out]; omega) info_u32 wh' ?_; intro w6 q6 g6 z6; rw [HSH'.out] at q6)
                go_roundw
                case rel => exact ⟨40, by omega, by go_num, hbl.grown g6 hbl.size (fun r e => by cases e; omega), ar.grown g6 (by intro e; injection e with e; omega), er.grown g6 (by intro e; injection e with e; omega), by rw [HSAME.out]; exact lr.grown g6 (by intro e; injection e with e; omega), q6⟩
                case measure => simp [intOf]
              · have hn : (q : Int) + 1 < 40 := by omega
                have cb := HCB.out wr ar (by omega)
                clear hlg hl40 hh40 hLen hHen HAT HCB HCA
                have HQJ := Lib.hid hqj
                clear hqj hj h16 e16 e16' e39
                generalize D.getD q 0 = x at *
                generalize D.getD (q + 1) 0 = y at *
                go_wp2_with (refine wpList_store_elem (w := wr) rfl 57 _ _ rfl gh j rfl 129 .u32 _ (x / 4 + y * 64 % 256) rfl hr (by rw [HH40.out]; omega) info_u32 wh ?_; intro w6 q6 g6 z6; rw [HSH.out] at q6)
                go_roundw
                case rel => exact ⟨q + 1, by omega, by go_num, hbl.grown g6 hbl.size (fun r e => by cases e; omega), ar.grown g6 (by intro e; injection e with e; omega), er.grown g6 (by intro e; injection e with e; omega), by rw [HSAME.out]; exact lr.grown g6 (by intro e; injection e with e; omega), by rw [HJ1.out]; exact q6⟩
                case measure => simp [intOf]; omega
        · have hq40 : q = 40 := by omega
          have hnl : ¬ (q : Int) < 40 := by omega
          rw [hq40] at lr hr
          have hz : blend (lowL D) (List.replicate 40 0) 40 = lowL D := blend_all (F := lowL D) (a := List.replicate 40 0) (by rw [HLL.out]; simp)
          have hz2 : blend (highL D) (List.replicate 40 0) (40 - 16) = highL D := by
            rw [show 40 - 16 = 24 from rfl, blend, highL, List.take_left' (by simp)]
            simp
          rw [hz] at lr
          rw [hz2] at hr
          clear hz hz2 hq0 hlq hq hq40 HLG HHG
          go_wp2_with fail
          go_loopw [8] (fun i wr => ∃ q : Nat, q ≤ 40 ∧ i = .int .i64 q ∧ Below w.heap.size w wr ∧ Row wr w.heap.size 129 .u32 D ∧ Row wr gr 129 .u32 (List.replicate 40 0) ∧ Row wr gl 129 .u32 (blend (fold D) (lowL D) q) ∧ Row wr gh 129 .u32 (highL D)) (fun i _ => 40 - (intOf i).toNat)
          case atStart => exact ⟨0, by omega, rfl, hbl, ar, er, by rw [blend_zero]; exact lr, hr⟩
          case round =>
            clear hbl ar er lr hr
            obtain ⟨q, hq, rfl, hbl, ar, er, lr, hr⟩ := hrel
            have hq0 : (0 : Int) ≤ (q : Int) := by omega
            by_cases hlq : q < 40
            · have hlq' : (q : Int) < 40 := by omega
              have hLen : (fold D).length = (lowL D).length := by rw [HFL.out, HLL.out]
              have cl := lr.cell (i := q) (by rw [blend_length hLen, HLL.out]; exact hlq)
              have ch := hr.cell (i := q) (by rw [HHL.out]; exact hlq)
              rw [blend_get hLen (by rw [HLL.out]; exact hlq)] at cl
              have fl := lr.frozen q
              have hfg := HFG.out q hlq
              have hx := HLB.out q
              have hy := HHB.out q
              have HS := Lib.hid (show Row (wr.setCell ⟨gl, q, none⟩ (.int .u32 ((lowL D).getD q 0 + 5 * (highL D).getD q 0))) gl 129 .u32 (blend (fold D) (lowL D) (q + 1)) by
                rw [← blend_set hLen (by rw [HLL.out]; exact hlq), hfg]
                exact lr.set q (wf_32 (by omega)))
              have HE := er.other (p := ⟨gl, q, none⟩) (by simp; omega) (.int .u32 ((lowL D).getD q 0 + 5 * (highL D).getD q 0))
              have HE2 := ar.other (p := ⟨gl, q, none⟩) (by simp; omega) (.int .u32 ((lowL D).getD q 0 + 5 * (highL D).getD q 0))
              have HE3 := hr.other (p := ⟨gl, q, none⟩) (by simp; omega) (.int .u32 ((lowL D).getD q 0 + 5 * (highL D).getD q 0))
              have HBL := Lib.hid (hbl.setCell (p := ⟨gl, q, none⟩) (by simp; omega) (.int .u32 ((lowL D).getD q 0 + 5 * (highL D).getD q 0)))
              clear hLen hfg ar er lr hr hbl
              generalize (lowL D).getD q 0 = x at *
              generalize (highL D).getD q 0 = y at *
              have hmul : IntKind.u32.wrap (5 * y) = 5 * y := IntWalk.u32_in _ (by omega)
              have hadd : IntKind.u32.wrap (x + 5 * y) = x + 5 * y := IntWalk.u32_in _ (by omega)
              have hadd2 : (x + 5 * y) % 4294967296 = x + 5 * y := by omega
              go_wp2_with fail
              go_still_tail 10, (by kernel_rfl)
              change wpList _ _ _ _ _ wr.drew
              go_wp2_with fail
              go_roundw
              case rel => exact ⟨q + 1, by omega, by go_num, HBL.out.drew, HE2, HE, HS.out, HE3⟩
              case measure => simp [intOf]; omega
            · have hq40 : q = 40 := by omega
              subst hq40
              have hz : blend (fold D) (lowL D) 40 = fold D := by
                have := blend_all (F := fold D) (a := lowL D) (by rw [HFL.out, HLL.out])
                rwa [HLL.out] at this
              rw [hz] at lr
              clear hz hq0 hlq
              go_wp2_with (refine wpList_load_Row (w := wr) rfl 129 _ rfl gl rfl 129 .u32 _ lr 40 57 Tryz.underlying129 info_forty HFL.out ?_)
              refine (rcarry_any (fold D) (red m) wr HFL.out HFB.out HFV.out).mono ?_
              rintro e w7 ⟨rfl, hb7⟩
              have a7 := ar.below hb7 ar.lt
              have e7 := er.below hb7 er.lt
              have b7 := hbl.trans (hb7.mono hbl.size)
              have hdw2 := HDW.out (red m)
              go_wp2_with (refine wpList_store_RowTo (w := w7) rfl 129 _ _ rfl w.heap.size rfl 129 .u32 _ (digits (red m) 40) rfl a7 40 info_forty (HDL.out _) HDX.out hdw2 ?_; intro w8 q8 g8 z8)
              go_roundw
              case rel => exact ⟨k + 1, by omega, by go_num, b7.grown g8 b7.size (fun r e => by cases e; omega), by rw [HRED.out]; exact q8, e7.grown g8 (by intro e; injection e with e; omega)⟩
              case measure => simp [intOf]; omega
    · have hk4 : k = 4 := by omega
      subst hk4
      have hdw2 := HDW.out (reds n 4)
      have HL := Lib.hid (HDL.out (reds n 4))
      clear hk0 hlt hdw
      go_wp2_with (first
        | (refine wpList_load_Row (w := wr) rfl 129 _ rfl w.heap.size rfl 129 .u32 _ ar 40 57 Tryz.underlying129 info_forty HL.out ?_)
        | (refine wpList_store_RowTo (w := wr) rfl 129 _ _ rfl gr rfl 129 .u32 _ (digits (reds n 4) 40) rfl er 40 info_forty HL.out (by simp) hdw2 ?_; intro w8 q8 g8 z8))
      refine bodyPost_ret (results_Row rfl _ _ gr _ _ _ rfl q8 40 57 Tryz.underlying129 info_forty HL.out) rfl ?_
      exact ⟨rfl, hbl.grown g8 hbl.size (fun r e => by cases e; omega)⟩
end Go.Proofs.YtjelacblnjbfgaaGreatDoor.Po
namespace Go.Proofs.YtjelacblnjbfgaaGreatDoor.Po
open Go.RowKit Go.Shelf Mem Go.Proofs.YtjelacblnjbfgaaGreatDoor.Sum
attribute [local irreducible] wpList wpListIn
theorem five_more {n : Int} (h0 : 0 ≤ n) (hn : n < 256 ^ 40) : val ((digits n 40).set 0 ((digits n 40).getD 0 0 + 5)) = n + 5 := by
  rw [val_set _ _ _ (by rw [digits_length]; omega), val_digits]
  omega
theorem five_bound (n : Int) : ∀ x ∈ (digits n 40).set 0 ((digits n 40).getD 0 0 + 5), 0 ≤ x ∧ x < 16777216 := by
  intro x hx
  rcases List.mem_or_eq_of_mem_set hx with h | h
  · have := digits_bytes 40 n x h
    omega
  · have := (digits_bytes 40 n).at_ 0
    omega
set_option maxRecDepth 100000 in
theorem rleast_any (n : Int) (w : World) (h0 : 0 ≤ n) (hn : n < 2 ^ 130) :
    Calls Tryz.prog 96 #[.agg (arr .u32 (digits n 40))] w fun e w' => e = .returned (.agg (arr .u32 (digits (n % modulus) 40))) ∧ Below w.heap.size w w' := by
  have HDW := Lib.hid (fun m : Int => bytes32 (digits_bytes 40 m))
  have HDL := Lib.hid (fun m : Int => digits_length 40 m)
  have hdw := HDW.out n
  have hdl := HDL.out n
  have hv := five_more h0 (show n < 256 ^ 40 by omega)
  have hb := five_bound n
  have hs := fun h => least_small h0 hn h
  have hg := fun h => least_big h0 hn h
  have hx := (digits_bytes 40 n).at_ 0
  have hy := (digits_bytes 40 (n + 5)).at_ 16
  obtain ⟨x, hxe⟩ : ∃ x, (digits n 40).getD 0 0 = x := ⟨_, rfl⟩
  obtain ⟨y, hye⟩ : ∃ y, (digits (n + 5) 40).getD 16 0 = y := ⟨_, rfl⟩
  rw [hxe] at hv hb hx
  rw [hye] at hs hg hy
  have HV := Lib.hid hv
  have HB := Lib.hid hb
  have HS := Lib.hid hs
  have HG := Lib.hid hg
  have HXE := Lib.hid hxe
  have HYE := Lib.hid hye
  clear hv hb hs hg hxe hye
  have w0 : (Lit.int .u32 (x + 5)).wf = true := wf_32 (by omega)
  have hadd : IntKind.u32.wrap (x + 5) = x + 5 := IntWalk.u32_in _ (by omega)
  have hadd2 : (x + 5) % 4294967296 = x + 5 := by omega
  have HDN := Lib.hid (show ((digits n 40).set 0 (x + 5)).length = 40 by rw [List.length_set]; exact hdl)
  go_enter Tryz.func96, Tryz.ntmps96
  go_wp2_with (first
    | (refine wpList_box_Row (w := w) rfl 129 _ rfl .u32 (digits n 40) rfl hdw ?_; intro w1 r1 g1 z1)
    | (refine wpList_alloc_Row (w := w1) rfl 129 rfl .u32 40 zero_forty ?_; intro w2 r2 g2 z2; have p2 := r1.grown g2 (by simp))
    | (refine wpList_load_Row (w := w2) rfl 129 _ rfl w.heap.size rfl 129 .u32 _ p2 40 57 Tryz.underlying129 info_forty hdl ?_)
    | (refine wpList_alloc_Row (w := w2) rfl 129 rfl .u32 40 zero_forty ?_; intro w3 r3 g3 z3)
    | (refine wpList_store_RowTo (w := w3) rfl 129 _ _ rfl w2.heap.size rfl 129 .u32 _ (digits n 40) rfl r3 40 info_forty hdl (by simp) hdw ?_; intro w4 r4 g4 z4; have c4 := r4.cell (i := 0) (by rw [hdl]; omega); rw [HXE.out] at c4)
    | (refine wpList_store_elem (w := w4) rfl 57 _ _ rfl w2.heap.size 0 rfl 129 .u32 _ (x + 5) rfl r4 (by rw [hdl]; omega) info_u32 w0 ?_; intro w5 r5 g5 z5)
    | (refine wpList_load_Row (w := w5) rfl 129 _ rfl w2.heap.size rfl 129 .u32 _ r5 40 57 Tryz.underlying129 info_forty HDN.out ?_))
  obtain ⟨gr, hgr⟩ : ∃ g, w1.heap.size = g := ⟨_, rfl⟩
  obtain ⟨gb, hgb⟩ : ∃ g, w2.heap.size = g := ⟨_, rfl⟩
  have l1 := r1.lt
  have l2 := r2.lt
  have s4 := g4.size
  have s3 := g3.size
  have b5 : Below w.heap.size w w5 := (((((Below.refl _ w).grown g1 (Nat.le_refl _) (by simp)).grown g2 g1.size (by simp)).grown g3 (by omega) (by simp)).grown g4 (by omega) (fun r e => by cases e; omega)).grown g5 (by omega) (fun r e => by cases e; omega)
  have a5 := ((p2.grown g3 (by simp)).grown g4 (by intro e; injection e with e; omega)).grown g5 (by intro e; injection e with e; omega)
  have e5 := ((r2.grown g3 (by simp)).grown g4 (by intro e; injection e with e; omega)).grown g5 (by intro e; injection e with e; omega)
  rw [hgr] at l1 l2 e5
  rw [hgb] at l2 r5
  rw [hgr, hgb]
  clear hgr hgb r1 r2 r3 r4 p2 g1 g2 g3 g4 g5 z1 z2 z3 z4 z5 s3 s4 hadd hadd2 w0
  refine (rcarry_any _ (n + 5) w5 HDN.out HB.out HV.out).mono ?_
  rintro e w6 ⟨rfl, hb6⟩
  have a6 := a5.below hb6 a5.lt
  have e6 := e5.below hb6 e5.lt
  have r6 := r5.below hb6 r5.lt
  have b6 := b5.trans (hb6.mono b5.size)
  have hdw5 := HDW.out (n + 5)
  have hdl5 := HDL.out (n + 5)
  have hdwm := HDW.out (n % modulus)
  have hdlm := HDL.out (n % modulus)
  clear a5 e5 r5 b5 hb6
  by_cases hlt : y < 4
  · have HEQ := Lib.hid (HS.out hlt)
    go_wp2_with (first
      | (refine wpList_store_RowTo (w := w6) rfl 129 _ _ rfl gb rfl 129 .u32 _ (digits (n + 5) 40) rfl r6 40 info_forty hdl5 HDN.out hdw5 ?_; intro w7 r7 g7 z7; have c7 := r7.cell (i := 16) (by rw [hdl5]; omega); rw [HYE.out] at c7; have a7 := a6.grown g7 (by intro e; injection e with e; omega); have e7 := e6.grown g7 (by intro e; injection e with e; omega); rw [HEQ.out] at a7)
      | (refine wpList_load_Row (w := w7) rfl 129 _ rfl w.heap.size rfl 129 .u32 _ a7 40 57 Tryz.underlying129 info_forty hdlm ?_)
      | (refine wpList_store_RowTo (w := w7) rfl 129 _ _ rfl gr rfl 129 .u32 _ (digits (n % modulus) 40) rfl e7 40 info_forty hdlm (by simp) hdwm ?_; intro w8 q8 g8 z8))
    refine bodyPost_ret (results_Row rfl _ _ gr _ _ _ rfl q8 40 57 Tryz.underlying129 info_forty hdlm) rfl ?_
    exact ⟨rfl, (b6.grown g7 b6.size (fun r e => by cases e; omega)).grown g8 (by have := b6.size; have := g7.size; omega) (fun r e => by cases e; omega)⟩
  · have HEQ := Lib.hid (HG.out (by omega))
    have hsub : IntKind.u32.wrap (y - 4) = y - 4 := IntWalk.u32_in _ (by omega)
    have hsub2 : (y - 4) % 4294967296 = y - 4 := by omega
    have w1' : (Lit.int .u32 (y - 4)).wf = true := wf_32 (by omega)
    go_wp2_with (first
      | (refine wpList_store_RowTo (w := w6) rfl 129 _ _ rfl gb rfl 129 .u32 _ (digits (n + 5) 40) rfl r6 40 info_forty hdl5 HDN.out hdw5 ?_; intro w7 r7 g7 z7; have c7 := r7.cell (i := 16) (by rw [hdl5]; omega); rw [HYE.out] at c7)
      | (refine wpList_store_elem (w := w7) rfl 57 _ _ rfl gb 16 rfl 129 .u32 _ (y - 4) rfl r7 (by rw [hdl5]; omega) info_u32 w1' ?_; intro w9 r9 g9 z9; rw [HEQ.out] at r9; have e9 := (e6.grown g7 (by intro e; injection e with e; omega)).grown g9 (by intro e; injection e with e; omega))
      | (refine wpList_load_Row (w := w9) rfl 129 _ rfl gb rfl 129 .u32 _ r9 40 57 Tryz.underlying129 info_forty hdlm ?_)
      | (refine wpList_store_RowTo (w := w9) rfl 129 _ _ rfl gr rfl 129 .u32 _ (digits (n % modulus) 40) rfl e9 40 info_forty hdlm (by simp) hdwm ?_; intro w8 q8 g8 z8))
    refine bodyPost_ret (results_Row rfl _ _ gr _ _ _ rfl q8 40 57 Tryz.underlying129 info_forty hdlm) rfl ?_
    exact ⟨rfl, ((b6.grown g7 b6.size (fun r e => by cases e; omega)).grown g9 (by have := b6.size; have := g7.size; omega) (fun r e => by cases e; omega)).grown g8 (by have := b6.size; have := g7.size; have := g9.size; omega) (fun r e => by cases e; omega)⟩
end Go.Proofs.YtjelacblnjbfgaaGreatDoor.Po
namespace Go.Proofs.YtjelacblnjbfgaaGreatDoor.Po
open Go.Proofs.YtjelacblnjbfgaaGreatDoor.Sum
def addB (a b : List Int) : List Int := List.zipWith (· + ·) a b
theorem val_addB : ∀ {a b : List Int}, a.length = b.length → val (addB a b) = val a + val b
  | [], [], _ => rfl
  | x :: xs, y :: ys, h => by
    have := val_addB (a := xs) (b := ys) (by simpa using h)
    simp only [addB, List.zipWith_cons_cons, val] at this ⊢
    rw [this]
    omega
theorem addB_length {a b : List Int} (h : a.length = b.length) : (addB a b).length = a.length := by simp [addB, h]
theorem addB_get {a b : List Int} {i : Nat} (ha : i < a.length) (hb : i < b.length) : (addB a b).getD i 0 = a.getD i 0 + b.getD i 0 := by
  simp [addB, List.getD_eq_getElem?_getD, List.getElem?_zipWith, ha, hb]
theorem addB_bound {a b : List Int} (ha : Bs a) (hb : Bs b) : ∀ x ∈ addB a b, 0 ≤ x ∧ x ≤ 510 := by
  intro x hx
  obtain ⟨i, hi, rfl⟩ := List.mem_iff_getElem.1 hx
  simp only [addB, List.length_zipWith] at hi
  simp only [addB, List.getElem_zipWith]
  have h1 := ha _ (List.getElem_mem (show i < a.length by omega))
  have h2 := hb _ (List.getElem_mem (show i < b.length by omega))
  omega
theorem blend_rest {F a : List Int} (h : F.length = a.length) (i : Nat) (he : ∀ j, i ≤ j → j < a.length → F.getD j 0 = a.getD j 0) : blend F a i = F := by
  apply List.ext_getElem
  · rw [blend_length h, h]
  · intro j h1 h2
    by_cases hj : j < i
    · simp only [blend]
      rw [List.getElem_append_left (by simp; omega), List.getElem_take]
    · have hja : j < a.length := by omega
      have := he j (by omega) hja
      rw [List.getD_eq_getElem?_getD, List.getD_eq_getElem?_getD, List.getElem?_eq_getElem h2, List.getElem?_eq_getElem hja, Option.getD_some, Option.getD_some] at this
      rw [this]
      simp only [blend]
      have e : (F.take i).length = i := by simp; omega
      rw [List.getElem_append_right (by omega)]
      simp only [e, List.getElem_drop]
      congr 1
      omega
def wideP (m : List Int) (k : Nat) : List Int := pieceAt m k ++ List.replicate 23 0
theorem wideP_length (m : List Int) (k : Nat) : (wideP m k).length = 40 := by simp [wideP, pieceAt_length]
theorem wideP_val (m : List Int) (k : Nat) : val (wideP m k) = val (pieceAt m k) := by rw [wideP, val_append, val_zeros, Int.mul_zero, Int.add_zero]
theorem zeros_bytes (k : Nat) : Bs (List.replicate k 0) := fun z hz => by rw [List.eq_of_mem_replicate hz]; omega
theorem bs_append {a b : List Int} (ha : Bs a) (hb : Bs b) : Bs (a ++ b) := fun z hz => by
  rcases List.mem_append.1 hz with h | h
  · exact ha z h
  · exact hb z h
theorem wideP_bytes {m : List Int} (h : Bs m) (k : Nat) : Bs (wideP m k) := bs_append (pieceAt_bytes h k) (zeros_bytes _)
theorem wideP_get_lo (m : List Int) (k : Nat) {i : Nat} (hi : i < (chunk m k).length) : (wideP m k).getD i 0 = m.getD (16 * k + i) 0 := by
  have hl := chunk_length m k
  simp only [wideP, pieceAt, List.append_assoc, List.getD_eq_getElem?_getD]
  rw [List.getElem?_append_left hi]
  simp only [chunk]
  rw [List.getElem?_take, if_pos (by omega), List.getElem?_drop]
theorem wideP_get_at (m : List Int) (k : Nat) : (wideP m k).getD (chunk m k).length 0 = 1 := by
  simp only [wideP, pieceAt, List.append_assoc, List.getD_eq_getElem?_getD]
  rw [List.getElem?_append_right (Nat.le_refl _), Nat.sub_self]
  rfl
theorem wideP_get_hi (m : List Int) (k : Nat) {i : Nat} (hi : (chunk m k).length < i) : (wideP m k).getD i 0 = 0 := by
  have e : wideP m k = chunk m k ++ 1 :: (List.replicate (16 - (chunk m k).length) 0 ++ List.replicate 23 0) := by simp [wideP, pieceAt]
  rw [e, List.getD_eq_getElem?_getD, List.getElem?_append_right (by omega), show i - (chunk m k).length = (i - (chunk m k).length - 1) + 1 by omega, List.getElem?_cons_succ, List.replicate_append_replicate, List.getElem?_replicate]
  split <;> rfl
theorem digits_take : ∀ (j k : Nat) (n : Int), j ≤ k → (digits n k).take j = digits n j
  | 0, _, _, _ => by simp [digits]
  | j + 1, 0, _, h => by omega
  | j + 1, k + 1, n, h => by rw [digits, List.take_succ_cons, digits_take j k _ (by omega), digits]
def prod (s c : List Int) (i j : Nat) : Int := val (s.take i) * val c + s.getD i 0 * val (c.take j) * 256 ^ i
theorem prod_start (s c : List Int) : prod s c 0 0 = 0 := by simp [prod, val]
theorem prod_next {s c : List Int} {i : Nat} (hi : i < s.length) : prod s c i c.length = prod s c (i + 1) 0 := by
  rw [prod, prod, val_take_succ s hi, List.take_length, List.take_zero, val]
  generalize val (s.take i) = A
  generalize s.getD i 0 = x
  generalize (256 : Int) ^ i = N
  generalize val c = C
  grind
theorem prod_step {s c : List Int} (i : Nat) {j : Nat} (hj : j < c.length) : prod s c i (j + 1) = prod s c i j + s.getD i 0 * c.getD j 0 * 256 ^ (i + j) := by
  rw [prod, prod, val_take_succ c hj, Int.pow_add]
  generalize val (s.take i) = A
  generalize s.getD i 0 = x
  generalize (256 : Int) ^ i = N
  generalize (256 : Int) ^ j = M
  grind
theorem prod_end {n : Int} (c : List Int) (h0 : 0 ≤ n) (hn : n < 256 ^ 18) : prod (digits n 40) c 18 0 = n * val c := by
  rw [prod, digits_take 18 40 n (by omega), val_digits, List.take_zero, val, Int.emod_eq_of_lt h0 hn]
  simp
def Small (ps : List Int) (i j : Nat) : Prop := ps.length = 40 ∧ (∀ l, 0 ≤ ps.getD l 0 ∧ ps.getD l 0 ≤ (i + 1 : Nat) * 65025) ∧ ∀ l, i + j ≤ l → ps.getD l 0 ≤ (i : Nat) * 65025
theorem small_start : Small (List.replicate 40 0) 0 0 := by
  have e : ∀ l, (List.replicate 40 (0 : Int)).getD l 0 = 0 := fun l => by
    rw [List.getD_eq_getElem?_getD, List.getElem?_replicate]
    split <;> rfl
  exact ⟨by simp, fun l => by rw [e]; omega, fun l _ => by rw [e]; omega⟩
theorem Small.next {ps : List Int} {i j : Nat} (h : Small ps i j) : Small ps (i + 1) 0 := ⟨h.1, fun l => by have := h.2.1 l; omega, fun l _ => (h.2.1 l).2⟩
theorem getD_set (l : List Int) (i j : Nat) (x : Int) (hi : i < l.length) : (l.set i x).getD j 0 = if i = j then x else l.getD j 0 := by
  simp only [List.getD_eq_getElem?_getD, List.getElem?_set]
  split
  · simp
  · rfl
theorem Small.step {ps : List Int} {i j : Nat} {y : Int} (h : Small ps i j) (hij : i + j < 40) (hy : 0 ≤ y ∧ y ≤ 65025) : Small (ps.set (i + j) (ps.getD (i + j) 0 + y)) i (j + 1) := by
  have hl : i + j < ps.length := by rw [h.1]; exact hij
  have h1 := h.2.1 (i + j)
  have h2 := h.2.2 (i + j) (Nat.le_refl _)
  refine ⟨by rw [List.length_set]; exact h.1, fun l => ?_, fun l hlt => ?_⟩
  · rw [getD_set _ _ _ _ hl]
    split
    · omega
    · exact h.2.1 l
  · rw [getD_set _ _ _ _ hl, if_neg (by omega)]
    exact h.2.2 l (by omega)
theorem Small.bound {ps : List Int} {i j : Nat} (h : Small ps i j) (hi : i ≤ 18) : ∀ x ∈ ps, 0 ≤ x ∧ x < 16777216 := by
  intro x hx
  obtain ⟨l, hl, rfl⟩ := List.mem_iff_getElem.1 hx
  have := h.2.1 l
  rw [List.getD_eq_getElem?_getD, List.getElem?_eq_getElem hl, Option.getD_some] at this
  omega
theorem byte_mul {x y : Int} (hx : 0 ≤ x ∧ x ≤ 255) (hy : 0 ≤ y ∧ y ≤ 255) : 0 ≤ x * y ∧ x * y ≤ 65025 :=
  ⟨Int.mul_nonneg hx.1 hy.1, Int.mul_le_mul hx.2 hy.2 hy.1 (by omega)⟩
theorem val_clamp_lt {key : List Int} (h : Bs key) : 0 ≤ val (clamp key) ∧ val (clamp key) < 2 ^ 128 := by
  have h1 := val_lt (clamp_bytes h)
  have h0 := val_nonneg (xs := clamp key) fun z hz => (clamp_bytes h z hz).1
  rw [clamp_length] at h1
  exact ⟨h0, by omega⟩
theorem mul_small {m r : Int} (h0 : 0 ≤ m) (hm : m < 2 ^ 131) (r0 : 0 ≤ r) (hr : r < 2 ^ 128) : 0 ≤ m * r ∧ m * r < 2 ^ 300 := by
  refine ⟨Int.mul_nonneg h0 r0, ?_⟩
  have : m * r ≤ 2 ^ 131 * 2 ^ 128 := Int.mul_le_mul (by omega) (by omega) r0 (by omega)
  omega
def wideH (key : List Int) : List Int := (key.drop 16).take 16 ++ List.replicate 24 0
theorem wideH_length {key : List Int} (h : key.length = 32) : (wideH key).length = 40 := by simp [wideH, h]
theorem wideH_bytes {key : List Int} (h : Bs key) : Bs (wideH key) := bs_append (fun z hz => h z (List.mem_of_mem_drop (List.mem_of_mem_take hz))) (zeros_bytes _)
theorem wideH_val (key : List Int) : val (wideH key) = val ((key.drop 16).take 16) := by rw [wideH, val_append, val_zeros, Int.mul_zero, Int.add_zero]
theorem wideH_get {key : List Int} (h : key.length = 32) {i : Nat} (hi : i < 16) : (wideH key).getD i 0 = key.getD (16 + i) 0 := by
  simp only [wideH, List.getD_eq_getElem?_getD]
  rw [List.getElem?_append_left (by simp [h]; omega), List.getElem?_take, if_pos hi, List.getElem?_drop]
theorem wideH_get_hi {key : List Int} (h : key.length = 32) {i : Nat} (hi : 16 ≤ i) : (wideH key).getD i 0 = 0 := by
  have e : ((key.drop 16).take 16).length = 16 := by simp [h]
  simp only [wideH, List.getD_eq_getElem?_getD]
  rw [List.getElem?_append_right (by omega), List.getElem?_replicate]
  split <;> rfl
end Go.Proofs.YtjelacblnjbfgaaGreatDoor.Po
