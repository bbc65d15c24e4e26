/-
  The document's own Clamp and carry, each by its contract. Conditions: bytes, places that are small enough.
  The document's own reduce and least, each by its contract. Conditions: a number below 2^300; one below 2^130.
  The document's own least by its contract. Conditions: a number below 2^130.
  What the document's own Tag adds and multiplies, place by place: no program here. No conditions beyond those stated.
  The document's own Tag by its contract: the tag is the one that the standard's own words say. Conditions: a key of 32 bytes, at most 2^40 bytes.
  The document's own tag (package dominoref07) by its contract: the tag of what stands beside and of what was turned. Conditions: a key of 32 bytes, a nonce of 12, at most 2^38 bytes each.
  Slices cut: s[:h] and s[l:] by their run, and what they read as. No program here. No conditions beyond those stated.
  The document's own Seal (package dominoref07) by its contract: what was turned, and the tag behind it; too much is refused. Conditions: a key of 32 bytes, a nonce of 12.
  The document's own Open (package dominoref07) by its contract: what was sealed is turned back where the tag is the right one; too much, too little and another tag are refused. Conditions: a key of 32 bytes, a nonce of 12.
  What a call of package aead is handed: a slice that reads as bytes. No conditions beyond those stated.
  The functions length and onceKey of package aead by their contracts: how many bytes there are, in eight bytes; the key of a tag. Conditions: at most 2^40 bytes; a key of 32 bytes, a nonce of 12; the table of package chacha lies where the program's text lays it.
  A range over a function whose iterator makes what it hands out (new blocks), keeps no cells of its own and whose body never leaves early: what the iterator is told of the rounds, and what the loop owes: no program here. No conditions beyond those stated.
  Values that are slices and read as texts: no program here. No conditions beyond those stated.
  What the frame of a proof says of a list of texts that came in: a slice of slices that read as lists of bytes. No conditions beyond those stated.
  Within a fence: a store of one number into a block that is known whole, a built array, a copy, a whole array's address out of a slice, the new world a letter: no program here. No conditions beyond those stated.
  The iterator over parts and their paddings of package aead, by its contract: it hands out each part, and with it as many zeros as are missing up to a multiple of 16. Conditions: at most 2^30 parts.
  A list of slices in a variable, which is appended to: what is known of it, and how it grows: one step of package aead's tagOf. No conditions beyond those stated.
-/
import Derived.Test.YtebcejncjljmhaaDoorB2
import Derived.Test.YtebcejncjljmhaaDoorB1
import Derived.Laws.Slices
import Derived.Deep.Matrix
namespace Go.Proofs.YtebcejncjljmhaaDoor.Po
open Go.RowKit Go.Shelf Go.Proofs.YtebcejncjljmhaaDoor.Mem Go.Proofs.YtebcejncjljmhaaDoor.Sum
set_option linter.unusedVariables false
attribute [local irreducible] wpList wpListIn

theorem info_forty : (Tryd.prog.info? 81).map (·.size) = some 40 := by kernel_rfl
theorem info_u32 : (Tryd.prog.info? 40).map (·.size) = some 1 := by kernel_rfl
theorem zero_forty : (Tryd.prog.info? 81).bind (·.zero) = some (.agg (arr .u32 (List.replicate 40 0))) := by kernel_rfl
theorem getD_set_self (l : List Int) {i : Nat} (h : i < l.length) (x : Int) : (l.set i x).getD i 0 = x := by simp [List.getD_eq_getElem?_getD, h]
theorem clamp_get (key : List Int) {i : Nat} (hi : i < 16) : (clamp key).getD i 0 = clampAt key i := by simp [clamp, List.getD_eq_getElem?_getD, hi]

set_option maxRecDepth 100000 in
theorem rclamp_any (key : List Int) (w : World) (hk : key.length = 32) (hkb : Bs key) :
    Calls Tryd.prog 53 #[.agg (arr .u8 key)] w fun e w' => e = .returned (.agg (arr .u8 (clamp key))) ∧ Below w.heap.size w w' := by
  have HK := Lib.hid hk
  have HL := Lib.hid (clamp_length key)
  have HW := Lib.hid (bs_wf (clamp_bytes hkb))
  have HKB := Lib.hid (fun i => hkb.at_ i)
  have HCG := Lib.hid (fun i (h : i < 16) => clamp_get key h)
  clear hk
  go_enter Tryd.func53, Tryd.ntmps53
  go_wp2_with (first
    | (refine wpList_box_Row (w := w) rfl 22 _ rfl .u8 key rfl (bs_wf hkb) ?_; intro w1 r1 g1 z1)
    | (refine wpList_alloc_Row (w := w1) rfl 41 rfl .u8 16 zero_16b ?_; intro w2 r2 g2 z2)
    | (refine wpList_alloc_Row (w := w2) rfl 41 rfl .u8 16 zero_16b ?_; intro w3 r3 g3 z3))
  obtain ⟨gr, hgr⟩ : ∃ g, w1.heap.size = g := ⟨_, rfl⟩
  obtain ⟨ga, hga⟩ : ∃ g, w2.heap.size = g := ⟨_, rfl⟩
  have l1 := r1.lt
  have l2 := r2.lt
  have b3 : Below w.heap.size w w3 := (((Below.refl _ w).grown g1 (Nat.le_refl _) (by simp)).grown g2 g1.size (by simp)).grown g3 (by omega) (by simp)
  have k3 := (r1.grown g2 (by simp)).grown g3 (by simp)
  have e3 := r2.grown g3 (by simp)
  rw [hgr] at l1 l2 e3
  rw [hga] at l2 r3
  rw [hgr, hga]
  clear hgr hga r1 r2 g1 g2 g3 z1 z2 z3
  go_loopw [4] (fun i wr => ∃ k : Nat, k ≤ 16 ∧ i = .int .i64 k ∧ Below w.heap.size w wr ∧ Row wr w.heap.size 22 .u8 key ∧ Row wr gr 41 .u8 (List.replicate 16 0) ∧ Row wr ga 41 .u8 (blend (clamp key) (List.replicate 16 0) k)) (fun i _ => 16 - (intOf i).toNat)
  case atStart => exact ⟨0, by omega, rfl, b3, k3, e3, by rw [blend_zero]; exact r3⟩
  case round =>
    clear b3 k3 e3 r3
    obtain ⟨k, hk, rfl, hbl, kr, er, ar⟩ := hrel
    have hk0 : (0 : Int) ≤ (k : Int) := by omega
    by_cases hlt : k < 16
    · have hlt' : (k : Int) < 16 := by omega
      have hLen : (clamp key).length = (List.replicate 16 (0 : Int)).length := by rw [HL.out]; simp
      have hl16 : (blend (clamp key) (List.replicate 16 0) k).length = 16 := by rw [blend_length hLen]; simp
      have HSET := Lib.hid (blend_set hLen (i := k) (by simpa using hlt))
      have hcg := HCG.out k hlt
      rw [hcg] at HSET
      have ck := kr.cell (i := k) (by rw [HK.out]; omega)
      have hx := HKB.out k
      have hca : clampAt key k = if k % 4 = 3 then key.getD k 0 % 16 else if k = 4 ∨ k = 8 ∨ k = 12 then key.getD k 0 / 4 * 4 else key.getD k 0 := rfl
      have HL16 := Lib.hid hl16
      clear hl16 hLen hcg
      generalize clampAt key k = y at *
      generalize key.getD k 0 = x at *
      have hand := and_byte hx
      have w0 : (Lit.int .u8 x).wf = true := wf_byte hx
      obtain ⟨ha1, ha2, -, -⟩ := hand
      by_cases h3 : k % 4 = 3
      · rw [if_pos h3] at hca
        have h3' : (k : Int) % 4 = 3 := by omega
        have e4 : ((k : Int) == 4) = false := by simp; omega
        have e8 : ((k : Int) == 8) = false := by simp; omega
        have e12 : ((k : Int) == 12) = false := by simp; omega
        have w1' : (Lit.int .u8 (x % 16)).wf = true := wf_byte (by omega)
        go_wp2_with (first
          | (refine wpList_store_elem (w := wr) rfl 5 _ _ rfl ga k rfl 41 .u8 _ x rfl ar (by rw [HL16.out]; exact hlt) info_u8 w0 ?_; intro w4 q4 g4 z4; have c4 := q4.cell (i := k) (by rw [List.length_set, HL16.out]; exact hlt); rw [getD_set_self _ (by rw [HL16.out]; exact hlt)] at c4)
          | (refine wpList_store_elem (w := w4) rfl 5 _ _ rfl ga k rfl 41 .u8 _ (x % 16) rfl q4 (by rw [List.length_set, HL16.out]; exact hlt) info_u8 w1' ?_; intro w5 q5 g5 z5; rw [List.set_set, ← hca, HSET.out] at q5))
        go_roundw
        case rel => exact ⟨k + 1, by omega, by go_num, (hbl.grown g4 hbl.size (fun r e => by cases e; omega)).grown g5 (by have := hbl.size; have := g4.size; omega) (fun r e => by cases e; omega), (kr.grown g4 (by intro e; injection e with e; omega)).grown g5 (by intro e; injection e with e; omega), (er.grown g4 (by intro e; injection e with e; omega)).grown g5 (by intro e; injection e with e; omega), q5⟩
        case measure => simp [intOf]; omega
      · rw [if_neg h3] at hca
        have h3' : ¬ (k : Int) % 4 = 3 := by omega
        by_cases h4 : k = 4 ∨ k = 8 ∨ k = 12
        · rw [if_pos h4] at hca
          have e4 : ((k : Int) == 4 || (k : Int) == 8 || (k : Int) == 12) = true := by simp; omega
          have w1' : (Lit.int .u8 (x / 4 * 4)).wf = true := wf_byte (by omega)
          rcases h4 with rfl | rfl | rfl
          all_goals
            go_wp2_with (first
              | (refine wpList_store_elem (w := wr) rfl 5 _ _ rfl ga _ rfl 41 .u8 _ x rfl ar (by rw [HL16.out]; exact hlt) info_u8 w0 ?_; intro w4 q4 g4 z4; have c4 := q4.cell (i := _) (by rw [List.length_set, HL16.out]; exact hlt); rw [getD_set_self _ (by rw [HL16.out]; exact hlt)] at c4)
              | (refine wpList_store_elem (w := w4) rfl 5 _ _ rfl ga _ rfl 41 .u8 _ (x / 4 * 4) rfl q4 (by rw [List.length_set, HL16.out]; exact hlt) info_u8 w1' ?_; intro w5 q5 g5 z5; rw [List.set_set, ← hca, HSET.out] at q5))
            go_roundw
            case rel => exact ⟨_, by omega, by go_num, (hbl.grown g4 hbl.size (fun r e => by cases e; omega)).grown g5 (by have := hbl.size; have := g4.size; omega) (fun r e => by cases e; omega), (kr.grown g4 (by intro e; injection e with e; omega)).grown g5 (by intro e; injection e with e; omega), (er.grown g4 (by intro e; injection e with e; omega)).grown g5 (by intro e; injection e with e; omega), q5⟩
            case measure => simp [intOf]
        · rw [if_neg h4] at hca
          have e4 : ((k : Int) == 4) = false := by simp; omega
          have e8 : ((k : Int) == 8) = false := by simp; omega
          have e12 : ((k : Int) == 12) = false := by simp; omega
          go_wp2_with (refine wpList_store_elem (w := wr) rfl 5 _ _ rfl ga k rfl 41 .u8 _ x rfl ar (by rw [HL16.out]; exact hlt) info_u8 w0 ?_; intro w4 q4 g4 z4; rw [← hca, HSET.out] at q4)
          go_roundw
          case rel => exact ⟨k + 1, by omega, by go_num, hbl.grown g4 hbl.size (fun r e => by cases e; omega), kr.grown g4 (by intro e; injection e with e; omega), er.grown g4 (by intro e; injection e with e; omega), q4⟩
          case measure => simp [intOf]; omega
    · have hk16 : k = 16 := by omega
      subst hk16
      have hz : blend (clamp key) (List.replicate 16 0) 16 = clamp key := blend_all (F := clamp key) (a := List.replicate 16 0) (by rw [HL.out]; simp)
      rw [hz] at ar
      clear hz hk0 hlt
      go_wp2_with (first
        | (refine wpList_load_Row (w := wr) rfl 41 _ rfl ga rfl 41 .u8 _ ar 16 5 Tryd.underlying41 info_16b HL.out ?_)
        | (refine wpList_store_RowTo (w := wr) rfl 41 _ _ rfl gr rfl 41 .u8 _ (clamp key) rfl er 16 info_16b HL.out (by simp) HW.out ?_; intro w8 q8 g8 z8))
      refine bodyPost_ret (results_Row rfl _ _ gr _ _ _ rfl q8 16 5 Tryd.underlying41 info_16b HL.out) rfl ?_
      exact ⟨rfl, hbl.grown g8 hbl.size (fun r e => by cases e; omega)⟩

set_option maxRecDepth 100000 in
theorem rcarry_any (xs : List Int) (n : Int) (w : World) (hx : xs.length = 40) (hb : ∀ x ∈ xs, 0 ≤ x ∧ x < 16777216) (hv : val xs = n) :
    Calls Tryd.prog 54 #[.agg (arr .u32 xs)] w fun e w' => e = .returned (.agg (arr .u32 (digits n 40))) ∧ Below w.heap.size w w' := by
  have HF := Lib.hid (show carried 0 xs = digits n 40 by rw [carried_zero xs n hv, hx])
  have HX := Lib.hid hx
  have HL := Lib.hid ((carried_length 0 xs).trans hx)
  have HW := Lib.hid (show ∀ z ∈ carried 0 xs, (Lit.int .u32 z).wf = true from fun z hz => wf_32 (by have := carried_bytes 0 xs z hz; omega))
  have HO := Lib.hid (fun k => cout_bound hb k)
  have HOS := Lib.hid (fun k => show cout 0 xs (k + 1) = (cout 0 xs k + xs.getD k 0) / 256 from rfl)
  have HXB := Lib.hid (fun i => getD_range (P := fun x => 0 ≤ x ∧ x < 16777216) hb (by omega) i)
  have HCG := Lib.hid (fun k (h : k < 40) => carried_get 0 xs k (by omega))
  have hxw : ∀ z ∈ xs, (Lit.int .u32 z).wf = true := fun z hz => wf_32 (by have := hb z hz; omega)
  clear hx hb hv
  rw [← HF.out]
  go_enter Tryd.func54, Tryd.ntmps54
  go_wp2_with (first
    | (refine wpList_box_Row (w := w) rfl 81 _ rfl .u32 xs rfl hxw ?_; intro w1 r1 g1 z1)
    | (refine wpList_alloc_Row (w := w1) rfl 81 rfl .u32 40 zero_forty ?_; intro w2 r2 g2 z2))
  obtain ⟨gr, hgr⟩ : ∃ g, w1.heap.size = g := ⟨_, rfl⟩
  have l1 := r1.lt
  have b2 : Below w.heap.size w w2 := ((Below.refl _ w).grown g1 (Nat.le_refl _) (by simp)).grown g2 g1.size (by simp)
  have p2 := r1.grown g2 (by simp)
  rw [hgr] at l1 r2 ⊢
  clear hgr r1 g1 g2 z1 z2
  go_loopw [3, 4] (fun c i wr => ∃ k : Nat, k ≤ 40 ∧ i = .int .i64 k ∧ c = .int .u32 (cout 0 xs k) ∧ Below w.heap.size w wr ∧ Row wr w.heap.size 81 .u32 (blend (carried 0 xs) xs k) ∧ Row wr gr 81 .u32 (List.replicate 40 0)) (fun _ i _ => 40 - (intOf i).toNat)
  case atStart => exact ⟨0, by omega, rfl, rfl, b2, by rw [blend_zero]; exact p2, r2⟩
  case round =>
    clear b2 p2 r2
    obtain ⟨k, hk, rfl, rfl, hbl, nr, er⟩ := hrel
    have hk0 : (0 : Int) ≤ (k : Int) := by omega
    by_cases hlt : k < 40
    · have hlt' : (k : Int) < 40 := by omega
      have hLen : (carried 0 xs).length = xs.length := by rw [HL.out, HX.out]
      have hl40 : (blend (carried 0 xs) xs k).length = 40 := by rw [blend_length hLen, HX.out]
      have c0 := nr.cell (i := k) (by rw [hl40]; exact hlt)
      rw [blend_get hLen (by rw [HX.out]; exact hlt)] at c0
      have HSET := Lib.hid (blend_set hLen (i := k) (by rw [HX.out]; exact hlt))
      rw [HCG.out k hlt] at HSET
      have HNX := Lib.hid (HOS.out k)
      have ho := HO.out k
      have hx := HXB.out k
      generalize xs.getD k 0 = x at *
      generalize cout 0 xs k = c at *
      have hadd : IntKind.u32.wrap (c + x) = c + x := IntWalk.u32_in _ (by omega)
      have hadd2 : (c + x) % 4294967296 = c + x := by omega
      have hand := mask_byte (c + x) (by omega) (by omega)
      have w0 : (Lit.int .u32 ((c + x) % 256)).wf = true := wf_32 (by omega)
      have HL40 := Lib.hid hl40
      clear hl40 hLen
      go_wp2_with (refine wpList_store_elem (w := wr) rfl 40 _ _ rfl w.heap.size k rfl 81 .u32 _ ((c + x) % 256) rfl nr (by rw [HL40.out]; exact hlt) info_u32 w0 ?_; intro w4 q4 g4 z4; rw [HSET.out] at q4)
      go_roundw
      case rel => exact ⟨k + 1, by omega, by go_num, by rw [HNX.out], hbl.grown g4 hbl.size (fun r e => by cases e; omega), q4, er.grown g4 (by intro e; injection e with e; omega)⟩
      case measure => simp [intOf]; omega
    · have hk40 : k = 40 := by omega
      subst hk40
      have hz : blend (carried 0 xs) xs 40 = carried 0 xs := by
        have := blend_all (F := carried 0 xs) (a := xs) (by rw [HL.out, HX.out])
        rwa [HX.out] at this
      rw [hz] at nr
      clear hz hk0 hlt
      go_wp2_with (first
        | (refine wpList_load_Row (w := wr) rfl 81 _ rfl w.heap.size rfl 81 .u32 _ nr 40 40 Tryd.underlying81 info_forty HL.out ?_)
        | (refine wpList_store_RowTo (w := wr) rfl 81 _ _ rfl gr rfl 81 .u32 _ (carried 0 xs) rfl er 40 info_forty HL.out (by simp) HW.out ?_; intro w8 q8 g8 z8))
      refine bodyPost_ret (results_Row rfl _ _ gr _ _ _ rfl q8 40 40 Tryd.underlying81 info_forty HL.out) rfl ?_
      exact ⟨rfl, hbl.grown g8 hbl.size (fun r e => by cases e; omega)⟩
end Go.Proofs.YtebcejncjljmhaaDoor.Po
namespace Go.Proofs.YtebcejncjljmhaaDoor.Po
open Go.RowKit Go.Shelf Go.Proofs.YtebcejncjljmhaaDoor.Mem Go.Proofs.YtebcejncjljmhaaDoor.Sum
set_option linter.unusedVariables false
attribute [local irreducible] wpList wpListIn

theorem blend_same {F a : List Int} (h : F.length = a.length) {i : Nat} (hi : i < a.length) (he : F.getD i 0 = a.getD i 0) : blend F a (i + 1) = blend F a i := by
  rw [← blend_set h hi, he, ← blend_get h hi]
  apply List.ext_getElem
  · simp
  · intro j h1 h2
    rw [List.getElem_set]
    split
    · rename_i e
      subst e
      rw [List.getD_eq_getElem?_getD, List.getElem?_eq_getElem h2]
      rfl
    · rfl
theorem bytes32 {xs : List Int} (h : Bs xs) : ∀ z ∈ xs, (Lit.int .u32 z).wf = true := fun z hz => wf_32 (by have := h z hz; omega)
theorem lowL_get {D : List Int} (h : D.length = 40) {i : Nat} (hi : i < 40) : (lowL D).getD i 0 = if i < 16 then D.getD i 0 else if i = 16 then D.getD 16 0 % 4 else 0 := by
  have e : (D.take 16).length = 16 := by simp [h]
  simp only [lowL, List.getD_eq_getElem?_getD]
  by_cases h1 : i < 16
  · rw [List.getElem?_append_left (by omega), if_pos h1, List.getElem?_take, if_pos h1]
  · rw [List.getElem?_append_right (by omega), if_neg h1, e]
    by_cases h2 : i = 16
    · subst h2
      rfl
    · rw [if_neg h2, show i - 16 = (i - 17) + 1 by omega, List.getElem?_cons_succ, List.getElem?_replicate, if_pos (by omega)]
      rfl
theorem highL_get (D : List Int) {j : Nat} (hj : j < 24) : (highL D).getD j 0 = highAt D j := by
  simp only [highL, List.getD_eq_getElem?_getD]
  rw [List.getElem?_append_left (by simpa using hj)]
  simp [hj]
theorem or_high (x y : Int) (hx : 0 ≤ x ∧ x ≤ 255) (hy : 0 ≤ y ∧ y ≤ 255) : bits .or .u32 (x / 4) (y * 64 % 256) = x / 4 + y * 64 % 256 :=
  bits_join_low .u32 32 (by decide) (fun n h1 h2 => wraps_u32 n h1 h2) 6 (x / 4) (y * 64 % 256) (by omega) (by omega) (by omega) (by omega) (by omega) (by omega)

set_option maxRecDepth 100000 in
set_option maxHeartbeats 1000000 in
theorem rreduce_any (n : Int) (w : World) (h0 : 0 ≤ n) (hn : n < 2 ^ 300) :
    Calls Tryd.prog 55 #[.agg (arr .u32 (digits n 40))] w fun e w' => e = .returned (.agg (arr .u32 (digits (reds n 4) 40))) ∧ Below w.heap.size w w' := by
  have HB := Lib.hid (fun k => reds_bound h0 hn k)
  have HDW := Lib.hid (fun m : Int => bytes32 (digits_bytes 40 m))
  have HDL := Lib.hid (fun m : Int => digits_length 40 m)
  have hdw := HDW.out n
  go_enter Tryd.func55, Tryd.ntmps55
  go_wp2_with (first
    | (refine wpList_box_Row (w := w) rfl 81 _ rfl .u32 (digits n 40) rfl hdw ?_; intro w1 r1 g1 z1)
    | (refine wpList_alloc_Row (w := w1) rfl 81 rfl .u32 40 zero_forty ?_; intro w2 r2 g2 z2))
  obtain ⟨gr, hgr⟩ : ∃ g, w1.heap.size = g := ⟨_, rfl⟩
  have l1 := r1.lt
  have b2 : Below w.heap.size w w2 := ((Below.refl _ w).grown g1 (Nat.le_refl _) (by simp)).grown g2 g1.size (by simp)
  have p2 := r1.grown g2 (by simp)
  rw [hgr] at l1 r2 ⊢
  clear hgr r1 g1 g2 z1 z2
  go_loopw [3] (fun i wr => ∃ k : Nat, k ≤ 4 ∧ i = .int .i64 k ∧ Below w.heap.size w wr ∧ Row wr w.heap.size 81 .u32 (digits (reds n k) 40) ∧ Row wr gr 81 .u32 (List.replicate 40 0)) (fun i _ => 4 - (intOf i).toNat)
  case atStart => exact ⟨0, by omega, rfl, b2, p2, r2⟩
  case round =>
    clear b2 p2 r2
    obtain ⟨k, hk, rfl, hbl, ar, er⟩ := hrel
    have hk0 : (0 : Int) ≤ (k : Int) := by omega
    by_cases hlt : k < 4
    · have hlt' : (k : Int) < 4 := by omega
      have hb4 := HB.out k
      have HRED := Lib.hid (show reds n (k + 1) = red (reds n k) from rfl)
      generalize reds n k = m at *
      have HFV := Lib.hid (fold_val hb4.1 (show m < 256 ^ 40 by omega))
      have HD := HDL.out m
      have HDB := Lib.hid (digits_bytes 40 m)
      generalize digits m 40 = D at *
      have HLL := Lib.hid (lowL_length HD)
      have HHL := Lib.hid (highL_length D)
      have HLG := Lib.hid (fun i (h : i < 40) => lowL_get HD h)
      have HHG := Lib.hid (fun j (h : j < 24) => highL_get D h)
      have HDG := Lib.hid (fun i => HDB.out.at_ i)
      have HD40 := Lib.hid (show D.getD 40 0 = 0 by rw [List.getD_eq_getElem?_getD, List.getElem?_eq_none (by omega)]; rfl)
      have HLW := Lib.hid (bytes32 (lowL_bytes HDB.out))
      have HHW := Lib.hid (bytes32 (highL_bytes HDB.out))
      have HFL := Lib.hid (fold_length HD)
      have HFG := Lib.hid (fun i (h : i < 40) => fold_get HD h)
      have HFB := Lib.hid (fold_bound HDB.out)
      have HLB := Lib.hid (fun i => (lowL_bytes HDB.out).at_ i)
      have HHB := Lib.hid (fun i => (highL_bytes HDB.out).at_ i)
      have HDX := Lib.hid HD
      clear HD
      go_wp2_with (first
        | (refine wpList_alloc_Row (w := wr) rfl 81 rfl .u32 40 zero_forty ?_; intro w3 r3 g3 z3)
        | (refine wpList_alloc_Row (w := w3) rfl 81 rfl .u32 40 zero_forty ?_; intro w4 r4 g4 z4))
      obtain ⟨gh, hgh⟩ : ∃ g, wr.heap.size = g := ⟨_, rfl⟩
      obtain ⟨gl, hgl⟩ : ∃ g, w3.heap.size = g := ⟨_, rfl⟩
      have l3 := r3.lt
      have le := er.lt
      have b4 : Below w.heap.size w w4 := (hbl.grown g3 hbl.size (by simp)).grown g4 (by have := hbl.size; have := g3.size; omega) (by simp)
      have a4 := (ar.grown g3 (by simp)).grown g4 (by simp)
      have e4 := (er.grown g3 (by simp)).grown g4 (by simp)
      have h4 := r3.grown g4 (by simp)
      rw [hgh] at l3 le h4
      rw [hgl] at l3 r4
      rw [hgh, hgl]
      clear hgh hgl r3 g3 g4 z3 z4 hbl ar er w3
      go_loopw [6] (fun i wr => ∃ q : Nat, q ≤ 40 ∧ i = .int .i64 q ∧ Below w.heap.size w wr ∧ Row wr w.heap.size 81 .u32 D ∧ Row wr gr 81 .u32 (List.replicate 40 0) ∧ Row wr gl 81 .u32 (blend (lowL D) (List.replicate 40 0) q) ∧ Row wr gh 81 .u32 (blend (highL D) (List.replicate 40 0) (q - 16))) (fun i _ => 40 - (intOf i).toNat)
      case atStart => exact ⟨0, by omega, rfl, b4, a4, e4, by rw [blend_zero]; exact r4, by rw [Nat.zero_sub, blend_zero]; exact h4⟩
      case round =>
        clear b4 a4 e4 r4 h4
        obtain ⟨q, hq, rfl, hbl, ar, er, lr, hr⟩ := hrel
        have hq0 : (0 : Int) ≤ (q : Int) := by omega
        by_cases hlq : q < 40
        · have hlq' : (q : Int) < 40 := by omega
          have hLen : (lowL D).length = (List.replicate 40 (0 : Int)).length := by rw [HLL.out]; simp
          have hHen : (highL D).length = (List.replicate 40 (0 : Int)).length := by rw [HHL.out]; simp
          have hl40 : (blend (lowL D) (List.replicate 40 0) q).length = 40 := by rw [blend_length hLen]; simp
          have hh40 : (blend (highL D) (List.replicate 40 0) (q - 16)).length = 40 := by rw [blend_length hHen]; simp
          have ca := ar.cell (i := q) (by rw [HDX.out]; exact hlq)
          have hx := HDG.out q
          have HSL := Lib.hid (blend_set hLen (i := q) (by simpa using hlq))
          have hlg := HLG.out q hlq
          have HL40 := Lib.hid hl40
          have HH40 := Lib.hid hh40
          by_cases h16 : q < 16
          · rw [if_pos h16] at hlg
            rw [hlg] at HSL
            have h16' : (q : Int) < 16 := by omega
            rw [show q - 16 = 0 by omega] at hr
            have HQ := Lib.hid (show q + 1 - 16 = 0 by omega)
            clear hlg hl40 hh40 hLen hHen
            generalize D.getD q 0 = x at *
            have w0 : (Lit.int .u32 x).wf = true := wf_32 (by omega)
            go_wp2_with (refine wpList_store_elem (w := wr) rfl 40 _ _ rfl gl q rfl 81 .u32 _ x rfl lr (by rw [HL40.out]; exact hlq) info_u32 w0 ?_; intro w5 q5 g5 z5; rw [HSL.out] at q5)
            go_roundw
            case rel => exact ⟨q + 1, by omega, by go_num, hbl.grown g5 hbl.size (fun r e => by cases e; omega), ar.grown g5 (by intro e; injection e with e; omega), er.grown g5 (by intro e; injection e with e; omega), q5, by rw [HQ.out]; exact hr.grown g5 (by intro e; injection e with e; omega)⟩
            case measure => simp [intOf]; omega
          · rw [if_neg h16] at hlg
            have h16' : ¬ (q : Int) < 16 := by omega
            have h16g : (16 : Int) ≤ (q : Int) := by omega
            obtain ⟨j, hj⟩ : ∃ j, q - 16 = j := ⟨_, rfl⟩
            have hqj : q = j + 16 := by omega
            rw [hj] at hr HH40
            have HJ1 := Lib.hid (show q + 1 - 16 = j + 1 by omega)
            have hj24 : j < 24 := by omega
            have HSH := Lib.hid (blend_set hHen (i := j) (by simp; omega))
            rw [HHG.out j hj24] at HSH
            have hix : (q : Int) - 16 = (j : Int) := by omega
            have HCA := Lib.hid (fun W (hW : Row W w.heap.size 81 .u32 D) => show W.cell? ⟨w.heap.size, q, none⟩ = some (.int .u32 (D.getD q 0)) from hW.cell (by rw [HDX.out]; exact hlq))
            have HCB := Lib.hid (fun W (hW : Row W w.heap.size 81 .u32 D) (h : q < 39) => show W.cell? ⟨w.heap.size, q + 1, none⟩ = some (.int .u32 (D.getD (q + 1) 0)) from hW.cell (by rw [HDX.out]; omega))
            have hy := HDG.out (q + 1)
            have HAT := Lib.hid (show highAt D j = D.getD q 0 / 4 + D.getD (q + 1) 0 * 64 % 256 by unfold highAt; rw [show 16 + j = q by omega, show 17 + j = q + 1 by omega])
            have hor := or_high _ _ hx hy
            have hand := mask_byte (D.getD (q + 1) 0 * 64) (by omega) (by omega)
            have hwr : IntKind.u32.wrap (D.getD (q + 1) 0 * 64) = D.getD (q + 1) 0 * 64 := IntWalk.u32_in _ (by omega)
            have hwr2 : D.getD (q + 1) 0 * 64 % 4294967296 = D.getD (q + 1) 0 * 64 := by omega
            have wh : (Lit.int .u32 (D.getD q 0 / 4 + D.getD (q + 1) 0 * 64 % 256)).wf = true := wf_32 (by omega)
            rw [HAT.out] at HSH
            by_cases e16 : q = 16
            · rw [if_pos e16] at hlg
              have hlg' : (lowL D).getD q 0 = D.getD q 0 % 4 := by rw [hlg, e16]
              rw [hlg'] at HSL
              have hm2 := mask_two (D.getD q 0) (by omega) (by omega)
              clear hlg hlg' hl40 hh40 hLen hHen HAT hy
              have w0 : (Lit.int .u32 (D.getD q 0 % 4)).wf = true := wf_32 (by omega)
              generalize D.getD q 0 = x at *
              generalize D.getD (q + 1) 0 = y at *
              obtain rfl : j = 0 := by omega
              subst e16
              clear hix hqj hj h16 h16' h16g hq0 hlq' hj24
              go_wp2_with (first
                | (refine wpList_store_elem (w := wr) rfl 40 _ _ rfl gl 16 rfl 81 .u32 _ (x % 4) rfl lr (by rw [HL40.out]; omega) info_u32 w0 ?_; intro w5 q5 g5 z5; rw [HSL.out] at q5; have ar5 := ar.grown g5 (by intro e; injection e with e; omega); have hr5 := hr.grown g5 (by intro e; injection e with e; omega); have ca5 := HCA.out w5 ar5; have cb5 := HCB.out w5 ar5 (by omega); simp only [Nat.reduceAdd] at cb5)
                | (refine wpList_store_elem (w := w5) rfl 40 _ _ rfl gh 0 rfl 81 .u32 _ (x / 4 + y * 64 % 256) rfl hr5 (by rw [HH40.out]; omega) info_u32 wh ?_; intro w6 q6 g6 z6; rw [HSH.out] at q6))
              go_roundw
              case rel => exact ⟨17, by omega, by go_num, (hbl.grown g5 hbl.size (fun r e => by cases e; omega)).grown g6 (by have := hbl.size; have := g5.size; omega) (fun r e => by cases e; omega), ar5.grown g6 (by intro e; injection e with e; omega), (er.grown g5 (by intro e; injection e with e; omega)).grown g6 (by intro e; injection e with e; omega), q5.grown g6 (by intro e; injection e with e; omega), q6⟩
              case measure => simp [intOf]
            · rw [if_neg e16] at hlg
              have e16' : ¬ (q : Int) = 16 := by omega
              have b16 : ((q : Int) == 16) = false := by simp; omega
              have HSAME := Lib.hid (blend_same hLen (i := q) (by simpa using hlq) (by rw [hlg, List.getD_eq_getElem?_getD, List.getElem?_replicate, if_pos hlq]; rfl))
              by_cases e39 : q = 39
              · have hy0 : D.getD (q + 1) 0 = 0 := by rw [e39]; exact HD40.out
                have hsh' := HSH.out
                rw [hy0, show D.getD q 0 / 4 + 0 * 64 % 256 = D.getD q 0 / 4 by omega] at hsh'
                rw [hy0, show D.getD q 0 / 4 + 0 * 64 % 256 = D.getD q 0 / 4 by omega, show (0 : Int) * 64 % 256 = 0 from rfl] at hor
                have hand0 : bits .and .u32 0 255 = 0 := by decide
                have wh' : (Lit.int .u32 (D.getD q 0 / 4)).wf = true := wf_32 (by omega)
                have HSH' := Lib.hid hsh'
                clear hsh' HSH wh hlg hl40 hh40 hLen hHen HAT hy HCB HCA hwr hwr2 hy0 hand
                generalize D.getD q 0 = x at *
                obtain rfl : j = 23 := by omega
                subst e39
                clear hix hqj hj h16 h16' h16g hq0 hlq' e16' e16 b16 hj24
                go_wp2_with (refine wpList_store_elem (w := wr) rfl 40 _ _ rfl gh 23 rfl 81 .u32 _ (x / 4) rfl hr (by rw [HH40.out]; omega) info_u32 wh' ?_; intro w6 q6 g6 z6; rw [HSH'.out] at q6)
                go_roundw
                case rel => exact ⟨40, by omega, by go_num, hbl.grown g6 hbl.size (fun r e => by cases e; omega), ar.grown g6 (by intro e; injection e with e; omega), er.grown g6 (by intro e; injection e with e; omega), by rw [HSAME.out]; exact lr.grown g6 (by intro e; injection e with e; omega), q6⟩
                case measure => simp [intOf]
              · have hn : (q : Int) + 1 < 40 := by omega
                have cb := HCB.out wr ar (by omega)
                clear hlg hl40 hh40 hLen hHen HAT HCB HCA
                have HQJ := Lib.hid hqj
                clear hqj hj h16 e16 e16' e39
                generalize D.getD q 0 = x at *
                generalize D.getD (q + 1) 0 = y at *
                go_wp2_with (refine wpList_store_elem (w := wr) rfl 40 _ _ rfl gh j rfl 81 .u32 _ (x / 4 + y * 64 % 256) rfl hr (by rw [HH40.out]; omega) info_u32 wh ?_; intro w6 q6 g6 z6; rw [HSH.out] at q6)
                go_roundw
                case rel => exact ⟨q + 1, by omega, by go_num, hbl.grown g6 hbl.size (fun r e => by cases e; omega), ar.grown g6 (by intro e; injection e with e; omega), er.grown g6 (by intro e; injection e with e; omega), by rw [HSAME.out]; exact lr.grown g6 (by intro e; injection e with e; omega), by rw [HJ1.out]; exact q6⟩
                case measure => simp [intOf]; omega
        · have hq40 : q = 40 := by omega
          have hnl : ¬ (q : Int) < 40 := by omega
          rw [hq40] at lr hr
          have hz : blend (lowL D) (List.replicate 40 0) 40 = lowL D := blend_all (F := lowL D) (a := List.replicate 40 0) (by rw [HLL.out]; simp)
          have hz2 : blend (highL D) (List.replicate 40 0) (40 - 16) = highL D := by
            rw [show 40 - 16 = 24 from rfl, blend, highL, List.take_left' (by simp)]
            simp
          rw [hz] at lr
          rw [hz2] at hr
          clear hz hz2 hq0 hlq hq hq40 HLG HHG
          go_wp2_with fail
          go_loopw [8] (fun i wr => ∃ q : Nat, q ≤ 40 ∧ i = .int .i64 q ∧ Below w.heap.size w wr ∧ Row wr w.heap.size 81 .u32 D ∧ Row wr gr 81 .u32 (List.replicate 40 0) ∧ Row wr gl 81 .u32 (blend (fold D) (lowL D) q) ∧ Row wr gh 81 .u32 (highL D)) (fun i _ => 40 - (intOf i).toNat)
          case atStart => exact ⟨0, by omega, rfl, hbl, ar, er, by rw [blend_zero]; exact lr, hr⟩
          case round =>
            clear hbl ar er lr hr
            obtain ⟨q, hq, rfl, hbl, ar, er, lr, hr⟩ := hrel
            have hq0 : (0 : Int) ≤ (q : Int) := by omega
            by_cases hlq : q < 40
            · have hlq' : (q : Int) < 40 := by omega
              have hLen : (fold D).length = (lowL D).length := by rw [HFL.out, HLL.out]
              have cl := lr.cell (i := q) (by rw [blend_length hLen, HLL.out]; exact hlq)
              have ch := hr.cell (i := q) (by rw [HHL.out]; exact hlq)
              rw [blend_get hLen (by rw [HLL.out]; exact hlq)] at cl
              have fl := lr.frozen q
              have hfg := HFG.out q hlq
              have hx := HLB.out q
              have hy := HHB.out q
              have HS := Lib.hid (show Row (wr.setCell ⟨gl, q, none⟩ (.int .u32 ((lowL D).getD q 0 + 5 * (highL D).getD q 0))) gl 81 .u32 (blend (fold D) (lowL D) (q + 1)) by
                rw [← blend_set hLen (by rw [HLL.out]; exact hlq), hfg]
                exact lr.set q (wf_32 (by omega)))
              have HE := er.other (p := ⟨gl, q, none⟩) (by simp; omega) (.int .u32 ((lowL D).getD q 0 + 5 * (highL D).getD q 0))
              have HE2 := ar.other (p := ⟨gl, q, none⟩) (by simp; omega) (.int .u32 ((lowL D).getD q 0 + 5 * (highL D).getD q 0))
              have HE3 := hr.other (p := ⟨gl, q, none⟩) (by simp; omega) (.int .u32 ((lowL D).getD q 0 + 5 * (highL D).getD q 0))
              have HBL := Lib.hid (hbl.setCell (p := ⟨gl, q, none⟩) (by simp; omega) (.int .u32 ((lowL D).getD q 0 + 5 * (highL D).getD q 0)))
              clear hLen hfg ar er lr hr hbl
              generalize (lowL D).getD q 0 = x at *
              generalize (highL D).getD q 0 = y at *
              have hmul : IntKind.u32.wrap (5 * y) = 5 * y := IntWalk.u32_in _ (by omega)
              have hadd : IntKind.u32.wrap (x + 5 * y) = x + 5 * y := IntWalk.u32_in _ (by omega)
              have hadd2 : (x + 5 * y) % 4294967296 = x + 5 * y := by omega
              go_wp2_with fail
              go_still_tail 10, (by kernel_rfl)
              change wpList _ _ _ _ _ wr.drew
              go_wp2_with fail
              go_roundw
              case rel => exact ⟨q + 1, by omega, by go_num, HBL.out.drew, HE2, HE, HS.out, HE3⟩
              case measure => simp [intOf]; omega
            · have hq40 : q = 40 := by omega
              subst hq40
              have hz : blend (fold D) (lowL D) 40 = fold D := by
                have := blend_all (F := fold D) (a := lowL D) (by rw [HFL.out, HLL.out])
                rwa [HLL.out] at this
              rw [hz] at lr
              clear hz hq0 hlq
              go_wp2_with (refine wpList_load_Row (w := wr) rfl 81 _ rfl gl rfl 81 .u32 _ lr 40 40 Tryd.underlying81 info_forty HFL.out ?_)
              refine (rcarry_any (fold D) (red m) wr HFL.out HFB.out HFV.out).mono ?_
              rintro e w7 ⟨rfl, hb7⟩
              have a7 := ar.below hb7 ar.lt
              have e7 := er.below hb7 er.lt
              have b7 := hbl.trans (hb7.mono hbl.size)
              have hdw2 := HDW.out (red m)
              go_wp2_with (refine wpList_store_RowTo (w := w7) rfl 81 _ _ rfl w.heap.size rfl 81 .u32 _ (digits (red m) 40) rfl a7 40 info_forty (HDL.out _) HDX.out hdw2 ?_; intro w8 q8 g8 z8)
              go_roundw
              case rel => exact ⟨k + 1, by omega, by go_num, b7.grown g8 b7.size (fun r e => by cases e; omega), by rw [HRED.out]; exact q8, e7.grown g8 (by intro e; injection e with e; omega)⟩
              case measure => simp [intOf]; omega
    · have hk4 : k = 4 := by omega
      subst hk4
      have hdw2 := HDW.out (reds n 4)
      have HL := Lib.hid (HDL.out (reds n 4))
      clear hk0 hlt hdw
      go_wp2_with (first
        | (refine wpList_load_Row (w := wr) rfl 81 _ rfl w.heap.size rfl 81 .u32 _ ar 40 40 Tryd.underlying81 info_forty HL.out ?_)
        | (refine wpList_store_RowTo (w := wr) rfl 81 _ _ rfl gr rfl 81 .u32 _ (digits (reds n 4) 40) rfl er 40 info_forty HL.out (by simp) hdw2 ?_; intro w8 q8 g8 z8))
      refine bodyPost_ret (results_Row rfl _ _ gr _ _ _ rfl q8 40 40 Tryd.underlying81 info_forty HL.out) rfl ?_
      exact ⟨rfl, hbl.grown g8 hbl.size (fun r e => by cases e; omega)⟩
end Go.Proofs.YtebcejncjljmhaaDoor.Po
namespace Go.Proofs.YtebcejncjljmhaaDoor.Po
open Go.RowKit Go.Shelf Go.Proofs.YtebcejncjljmhaaDoor.Mem Go.Proofs.YtebcejncjljmhaaDoor.Sum
set_option linter.unusedVariables false
attribute [local irreducible] wpList wpListIn

theorem five_more {n : Int} (h0 : 0 ≤ n) (hn : n < 256 ^ 40) : val ((digits n 40).set 0 ((digits n 40).getD 0 0 + 5)) = n + 5 := by
  rw [val_set _ _ _ (by rw [digits_length]; omega), val_digits]
  omega
theorem five_bound (n : Int) : ∀ x ∈ (digits n 40).set 0 ((digits n 40).getD 0 0 + 5), 0 ≤ x ∧ x < 16777216 := by
  intro x hx
  rcases List.mem_or_eq_of_mem_set hx with h | h
  · have := digits_bytes 40 n x h
    omega
  · have := (digits_bytes 40 n).at_ 0
    omega
set_option maxRecDepth 100000 in
theorem rleast_any (n : Int) (w : World) (h0 : 0 ≤ n) (hn : n < 2 ^ 130) :
    Calls Tryd.prog 56 #[.agg (arr .u32 (digits n 40))] w fun e w' => e = .returned (.agg (arr .u32 (digits (n % modulus) 40))) ∧ Below w.heap.size w w' := by
  have HDW := Lib.hid (fun m : Int => bytes32 (digits_bytes 40 m))
  have HDL := Lib.hid (fun m : Int => digits_length 40 m)
  have hdw := HDW.out n
  have hdl := HDL.out n
  have hv := five_more h0 (show n < 256 ^ 40 by omega)
  have hb := five_bound n
  have hs := fun h => least_small h0 hn h
  have hg := fun h => least_big h0 hn h
  have hx := (digits_bytes 40 n).at_ 0
  have hy := (digits_bytes 40 (n + 5)).at_ 16
  obtain ⟨x, hxe⟩ : ∃ x, (digits n 40).getD 0 0 = x := ⟨_, rfl⟩
  obtain ⟨y, hye⟩ : ∃ y, (digits (n + 5) 40).getD 16 0 = y := ⟨_, rfl⟩
  rw [hxe] at hv hb hx
  rw [hye] at hs hg hy
  have HV := Lib.hid hv
  have HB := Lib.hid hb
  have HS := Lib.hid hs
  have HG := Lib.hid hg
  have HXE := Lib.hid hxe
  have HYE := Lib.hid hye
  clear hv hb hs hg hxe hye
  have w0 : (Lit.int .u32 (x + 5)).wf = true := wf_32 (by omega)
  have hadd : IntKind.u32.wrap (x + 5) = x + 5 := IntWalk.u32_in _ (by omega)
  have hadd2 : (x + 5) % 4294967296 = x + 5 := by omega
  have HDN := Lib.hid (show ((digits n 40).set 0 (x + 5)).length = 40 by rw [List.length_set]; exact hdl)
  go_enter Tryd.func56, Tryd.ntmps56
  go_wp2_with (first
    | (refine wpList_box_Row (w := w) rfl 81 _ rfl .u32 (digits n 40) rfl hdw ?_; intro w1 r1 g1 z1)
    | (refine wpList_alloc_Row (w := w1) rfl 81 rfl .u32 40 zero_forty ?_; intro w2 r2 g2 z2; have p2 := r1.grown g2 (by simp))
    | (refine wpList_load_Row (w := w2) rfl 81 _ rfl w.heap.size rfl 81 .u32 _ p2 40 40 Tryd.underlying81 info_forty hdl ?_)
    | (refine wpList_alloc_Row (w := w2) rfl 81 rfl .u32 40 zero_forty ?_; intro w3 r3 g3 z3)
    | (refine wpList_store_RowTo (w := w3) rfl 81 _ _ rfl w2.heap.size rfl 81 .u32 _ (digits n 40) rfl r3 40 info_forty hdl (by simp) hdw ?_; intro w4 r4 g4 z4; have c4 := r4.cell (i := 0) (by rw [hdl]; omega); rw [HXE.out] at c4)
    | (refine wpList_store_elem (w := w4) rfl 40 _ _ rfl w2.heap.size 0 rfl 81 .u32 _ (x + 5) rfl r4 (by rw [hdl]; omega) info_u32 w0 ?_; intro w5 r5 g5 z5)
    | (refine wpList_load_Row (w := w5) rfl 81 _ rfl w2.heap.size rfl 81 .u32 _ r5 40 40 Tryd.underlying81 info_forty HDN.out ?_))
  obtain ⟨gr, hgr⟩ : ∃ g, w1.heap.size = g := ⟨_, rfl⟩
  obtain ⟨gb, hgb⟩ : ∃ g, w2.heap.size = g := ⟨_, rfl⟩
  have l1 := r1.lt
  have l2 := r2.lt
  have s4 := g4.size
  have s3 := g3.size
  have b5 : Below w.heap.size w w5 := (((((Below.refl _ w).grown g1 (Nat.le_refl _) (by simp)).grown g2 g1.size (by simp)).grown g3 (by omega) (by simp)).grown g4 (by omega) (fun r e => by cases e; omega)).grown g5 (by omega) (fun r e => by cases e; omega)
  have a5 := ((p2.grown g3 (by simp)).grown g4 (by intro e; injection e with e; omega)).grown g5 (by intro e; injection e with e; omega)
  have e5 := ((r2.grown g3 (by simp)).grown g4 (by intro e; injection e with e; omega)).grown g5 (by intro e; injection e with e; omega)
  rw [hgr] at l1 l2 e5
  rw [hgb] at l2 r5
  rw [hgr, hgb]
  clear hgr hgb r1 r2 r3 r4 p2 g1 g2 g3 g4 g5 z1 z2 z3 z4 z5 s3 s4 hadd hadd2 w0
  refine (rcarry_any _ (n + 5) w5 HDN.out HB.out HV.out).mono ?_
  rintro e w6 ⟨rfl, hb6⟩
  have a6 := a5.below hb6 a5.lt
  have e6 := e5.below hb6 e5.lt
  have r6 := r5.below hb6 r5.lt
  have b6 := b5.trans (hb6.mono b5.size)
  have hdw5 := HDW.out (n + 5)
  have hdl5 := HDL.out (n + 5)
  have hdwm := HDW.out (n % modulus)
  have hdlm := HDL.out (n % modulus)
  clear a5 e5 r5 b5 hb6
  by_cases hlt : y < 4
  · have HEQ := Lib.hid (HS.out hlt)
    go_wp2_with (first
      | (refine wpList_store_RowTo (w := w6) rfl 81 _ _ rfl gb rfl 81 .u32 _ (digits (n + 5) 40) rfl r6 40 info_forty hdl5 HDN.out hdw5 ?_; intro w7 r7 g7 z7; have c7 := r7.cell (i := 16) (by rw [hdl5]; omega); rw [HYE.out] at c7; have a7 := a6.grown g7 (by intro e; injection e with e; omega); have e7 := e6.grown g7 (by intro e; injection e with e; omega); rw [HEQ.out] at a7)
      | (refine wpList_load_Row (w := w7) rfl 81 _ rfl w.heap.size rfl 81 .u32 _ a7 40 40 Tryd.underlying81 info_forty hdlm ?_)
      | (refine wpList_store_RowTo (w := w7) rfl 81 _ _ rfl gr rfl 81 .u32 _ (digits (n % modulus) 40) rfl e7 40 info_forty hdlm (by simp) hdwm ?_; intro w8 q8 g8 z8))
    refine bodyPost_ret (results_Row rfl _ _ gr _ _ _ rfl q8 40 40 Tryd.underlying81 info_forty hdlm) rfl ?_
    exact ⟨rfl, (b6.grown g7 b6.size (fun r e => by cases e; omega)).grown g8 (by have := b6.size; have := g7.size; omega) (fun r e => by cases e; omega)⟩
  · have HEQ := Lib.hid (HG.out (by omega))
    have hsub : IntKind.u32.wrap (y - 4) = y - 4 := IntWalk.u32_in _ (by omega)
    have hsub2 : (y - 4) % 4294967296 = y - 4 := by omega
    have w1' : (Lit.int .u32 (y - 4)).wf = true := wf_32 (by omega)
    go_wp2_with (first
      | (refine wpList_store_RowTo (w := w6) rfl 81 _ _ rfl gb rfl 81 .u32 _ (digits (n + 5) 40) rfl r6 40 info_forty hdl5 HDN.out hdw5 ?_; intro w7 r7 g7 z7; have c7 := r7.cell (i := 16) (by rw [hdl5]; omega); rw [HYE.out] at c7)
      | (refine wpList_store_elem (w := w7) rfl 40 _ _ rfl gb 16 rfl 81 .u32 _ (y - 4) rfl r7 (by rw [hdl5]; omega) info_u32 w1' ?_; intro w9 r9 g9 z9; rw [HEQ.out] at r9; have e9 := (e6.grown g7 (by intro e; injection e with e; omega)).grown g9 (by intro e; injection e with e; omega))
      | (refine wpList_load_Row (w := w9) rfl 81 _ rfl gb rfl 81 .u32 _ r9 40 40 Tryd.underlying81 info_forty hdlm ?_)
      | (refine wpList_store_RowTo (w := w9) rfl 81 _ _ rfl gr rfl 81 .u32 _ (digits (n % modulus) 40) rfl e9 40 info_forty hdlm (by simp) hdwm ?_; intro w8 q8 g8 z8))
    refine bodyPost_ret (results_Row rfl _ _ gr _ _ _ rfl q8 40 40 Tryd.underlying81 info_forty hdlm) rfl ?_
    exact ⟨rfl, ((b6.grown g7 b6.size (fun r e => by cases e; omega)).grown g9 (by have := b6.size; have := g7.size; omega) (fun r e => by cases e; omega)).grown g8 (by have := b6.size; have := g7.size; have := g9.size; omega) (fun r e => by cases e; omega)⟩
end Go.Proofs.YtebcejncjljmhaaDoor.Po
namespace Go.Proofs.YtebcejncjljmhaaDoor.Po
open Go.Proofs.YtebcejncjljmhaaDoor.Sum
set_option linter.unusedVariables false

/-- added place by place -/
def addB (a b : List Int) : List Int := List.zipWith (· + ·) a b
theorem val_addB : ∀ {a b : List Int}, a.length = b.length → val (addB a b) = val a + val b
  | [], [], _ => rfl
  | x :: xs, y :: ys, h => by
    have := val_addB (a := xs) (b := ys) (by simpa using h)
    simp only [addB, List.zipWith_cons_cons, val] at this ⊢
    rw [this]
    omega
theorem addB_length {a b : List Int} (h : a.length = b.length) : (addB a b).length = a.length := by simp [addB, h]
theorem addB_get {a b : List Int} {i : Nat} (ha : i < a.length) (hb : i < b.length) : (addB a b).getD i 0 = a.getD i 0 + b.getD i 0 := by
  simp [addB, List.getD_eq_getElem?_getD, List.getElem?_zipWith, ha, hb]
theorem addB_bound {a b : List Int} (ha : Bs a) (hb : Bs b) : ∀ x ∈ addB a b, 0 ≤ x ∧ x ≤ 510 := by
  intro x hx
  obtain ⟨i, hi, rfl⟩ := List.mem_iff_getElem.1 hx
  simp only [addB, List.length_zipWith] at hi
  simp only [addB, List.getElem_zipWith]
  have h1 := ha _ (List.getElem_mem (show i < a.length by omega))
  have h2 := hb _ (List.getElem_mem (show i < b.length by omega))
  omega
theorem blend_rest {F a : List Int} (h : F.length = a.length) (i : Nat) (he : ∀ j, i ≤ j → j < a.length → F.getD j 0 = a.getD j 0) : blend F a i = F := by
  apply List.ext_getElem
  · rw [blend_length h, h]
  · intro j h1 h2
    by_cases hj : j < i
    · simp only [blend]
      rw [List.getElem_append_left (by simp; omega), List.getElem_take]
    · have hja : j < a.length := by omega
      have := he j (by omega) hja
      rw [List.getD_eq_getElem?_getD, List.getD_eq_getElem?_getD, List.getElem?_eq_getElem h2, List.getElem?_eq_getElem hja, Option.getD_some, Option.getD_some] at this
      rw [this]
      simp only [blend]
      have e : (F.take i).length = i := by simp; omega
      rw [List.getElem_append_right (by omega)]
      simp only [e, List.getElem_drop]
      congr 1
      omega
/-- a piece, in forty places -/
def wideP (m : List Int) (k : Nat) : List Int := pieceAt m k ++ List.replicate 23 0
theorem wideP_length (m : List Int) (k : Nat) : (wideP m k).length = 40 := by simp [wideP, pieceAt_length]
theorem wideP_val (m : List Int) (k : Nat) : val (wideP m k) = val (pieceAt m k) := by rw [wideP, val_append, val_zeros, Int.mul_zero, Int.add_zero]
theorem zeros_bytes (k : Nat) : Bs (List.replicate k 0) := fun z hz => by rw [List.eq_of_mem_replicate hz]; omega
theorem bs_append {a b : List Int} (ha : Bs a) (hb : Bs b) : Bs (a ++ b) := fun z hz => by
  rcases List.mem_append.1 hz with h | h
  · exact ha z h
  · exact hb z h
theorem wideP_bytes {m : List Int} (h : Bs m) (k : Nat) : Bs (wideP m k) := bs_append (pieceAt_bytes h k) (zeros_bytes _)
theorem wideP_get_lo (m : List Int) (k : Nat) {i : Nat} (hi : i < (chunk m k).length) : (wideP m k).getD i 0 = m.getD (16 * k + i) 0 := by
  have hl := chunk_length m k
  simp only [wideP, pieceAt, List.append_assoc, List.getD_eq_getElem?_getD]
  rw [List.getElem?_append_left hi]
  simp only [chunk]
  rw [List.getElem?_take, if_pos (by omega), List.getElem?_drop]
theorem wideP_get_at (m : List Int) (k : Nat) : (wideP m k).getD (chunk m k).length 0 = 1 := by
  simp only [wideP, pieceAt, List.append_assoc, List.getD_eq_getElem?_getD]
  rw [List.getElem?_append_right (Nat.le_refl _), Nat.sub_self]
  rfl
theorem wideP_get_hi (m : List Int) (k : Nat) {i : Nat} (hi : (chunk m k).length < i) : (wideP m k).getD i 0 = 0 := by
  have e : wideP m k = chunk m k ++ 1 :: (List.replicate (16 - (chunk m k).length) 0 ++ List.replicate 23 0) := by simp [wideP, pieceAt]
  rw [e, List.getD_eq_getElem?_getD, List.getElem?_append_right (by omega), show i - (chunk m k).length = (i - (chunk m k).length - 1) + 1 by omega, List.getElem?_cons_succ, List.replicate_append_replicate, List.getElem?_replicate]
  split <;> rfl
theorem digits_take : ∀ (j k : Nat) (n : Int), j ≤ k → (digits n k).take j = digits n j
  | 0, _, _, _ => by simp [digits]
  | j + 1, 0, _, h => by omega
  | j + 1, k + 1, n, h => by rw [digits, List.take_succ_cons, digits_take j k _ (by omega), digits]

/-- the product as it is behind i rows and j places of the next one -/
def prod (s c : List Int) (i j : Nat) : Int := val (s.take i) * val c + s.getD i 0 * val (c.take j) * 256 ^ i
theorem prod_start (s c : List Int) : prod s c 0 0 = 0 := by simp [prod, val]
theorem prod_next {s c : List Int} {i : Nat} (hi : i < s.length) : prod s c i c.length = prod s c (i + 1) 0 := by
  rw [prod, prod, val_take_succ s hi, List.take_length, List.take_zero, val]
  generalize val (s.take i) = A
  generalize s.getD i 0 = x
  generalize (256 : Int) ^ i = N
  generalize val c = C
  grind
theorem prod_step {s c : List Int} (i : Nat) {j : Nat} (hj : j < c.length) : prod s c i (j + 1) = prod s c i j + s.getD i 0 * c.getD j 0 * 256 ^ (i + j) := by
  rw [prod, prod, val_take_succ c hj, Int.pow_add]
  generalize val (s.take i) = A
  generalize s.getD i 0 = x
  generalize (256 : Int) ^ i = N
  generalize (256 : Int) ^ j = M
  grind
theorem prod_end {n : Int} (c : List Int) (h0 : 0 ≤ n) (hn : n < 256 ^ 18) : prod (digits n 40) c 18 0 = n * val c := by
  rw [prod, digits_take 18 40 n (by omega), val_digits, List.take_zero, val, Int.emod_eq_of_lt h0 hn]
  simp
/-- the places of a product, small enough -/
def Small (ps : List Int) (i j : Nat) : Prop := ps.length = 40 ∧ (∀ l, 0 ≤ ps.getD l 0 ∧ ps.getD l 0 ≤ (i + 1 : Nat) * 65025) ∧ ∀ l, i + j ≤ l → ps.getD l 0 ≤ (i : Nat) * 65025
theorem small_start : Small (List.replicate 40 0) 0 0 := by
  have e : ∀ l, (List.replicate 40 (0 : Int)).getD l 0 = 0 := fun l => by
    rw [List.getD_eq_getElem?_getD, List.getElem?_replicate]
    split <;> rfl
  exact ⟨by simp, fun l => by rw [e]; omega, fun l _ => by rw [e]; omega⟩
theorem Small.next {ps : List Int} {i j : Nat} (h : Small ps i j) : Small ps (i + 1) 0 := ⟨h.1, fun l => by have := h.2.1 l; omega, fun l _ => (h.2.1 l).2⟩
theorem getD_set (l : List Int) (i j : Nat) (x : Int) (hi : i < l.length) : (l.set i x).getD j 0 = if i = j then x else l.getD j 0 := by
  simp only [List.getD_eq_getElem?_getD, List.getElem?_set]
  split
  · simp
  · rfl
theorem Small.step {ps : List Int} {i j : Nat} {y : Int} (h : Small ps i j) (hij : i + j < 40) (hy : 0 ≤ y ∧ y ≤ 65025) : Small (ps.set (i + j) (ps.getD (i + j) 0 + y)) i (j + 1) := by
  have hl : i + j < ps.length := by rw [h.1]; exact hij
  have h1 := h.2.1 (i + j)
  have h2 := h.2.2 (i + j) (Nat.le_refl _)
  refine ⟨by rw [List.length_set]; exact h.1, fun l => ?_, fun l hlt => ?_⟩
  · rw [getD_set _ _ _ _ hl]
    split
    · omega
    · exact h.2.1 l
  · rw [getD_set _ _ _ _ hl, if_neg (by omega)]
    exact h.2.2 l (by omega)
theorem Small.bound {ps : List Int} {i j : Nat} (h : Small ps i j) (hi : i ≤ 18) : ∀ x ∈ ps, 0 ≤ x ∧ x < 16777216 := by
  intro x hx
  obtain ⟨l, hl, rfl⟩ := List.mem_iff_getElem.1 hx
  have := h.2.1 l
  rw [List.getD_eq_getElem?_getD, List.getElem?_eq_getElem hl, Option.getD_some] at this
  omega
theorem byte_mul {x y : Int} (hx : 0 ≤ x ∧ x ≤ 255) (hy : 0 ≤ y ∧ y ≤ 255) : 0 ≤ x * y ∧ x * y ≤ 65025 :=
  ⟨Int.mul_nonneg hx.1 hy.1, Int.mul_le_mul hx.2 hy.2 hy.1 (by omega)⟩
theorem val_clamp_lt {key : List Int} (h : Bs key) : 0 ≤ val (clamp key) ∧ val (clamp key) < 2 ^ 128 := by
  have h1 := val_lt (clamp_bytes h)
  have h0 := val_nonneg (xs := clamp key) fun z hz => (clamp_bytes h z hz).1
  rw [clamp_length] at h1
  exact ⟨h0, by omega⟩
theorem mul_small {m r : Int} (h0 : 0 ≤ m) (hm : m < 2 ^ 131) (r0 : 0 ≤ r) (hr : r < 2 ^ 128) : 0 ≤ m * r ∧ m * r < 2 ^ 300 := by
  refine ⟨Int.mul_nonneg h0 r0, ?_⟩
  have : m * r ≤ 2 ^ 131 * 2 ^ 128 := Int.mul_le_mul (by omega) (by omega) r0 (by omega)
  omega
/-- half a key, in forty places -/
def wideH (key : List Int) : List Int := (key.drop 16).take 16 ++ List.replicate 24 0
theorem wideH_length {key : List Int} (h : key.length = 32) : (wideH key).length = 40 := by simp [wideH, h]
theorem wideH_bytes {key : List Int} (h : Bs key) : Bs (wideH key) := bs_append (fun z hz => h z (List.mem_of_mem_drop (List.mem_of_mem_take hz))) (zeros_bytes _)
theorem wideH_val (key : List Int) : val (wideH key) = val ((key.drop 16).take 16) := by rw [wideH, val_append, val_zeros, Int.mul_zero, Int.add_zero]
theorem wideH_get {key : List Int} (h : key.length = 32) {i : Nat} (hi : i < 16) : (wideH key).getD i 0 = key.getD (16 + i) 0 := by
  simp only [wideH, List.getD_eq_getElem?_getD]
  rw [List.getElem?_append_left (by simp [h]; omega), List.getElem?_take, if_pos hi, List.getElem?_drop]
theorem wideH_get_hi {key : List Int} (h : key.length = 32) {i : Nat} (hi : 16 ≤ i) : (wideH key).getD i 0 = 0 := by
  have e : ((key.drop 16).take 16).length = 16 := by simp [h]
  simp only [wideH, List.getD_eq_getElem?_getD]
  rw [List.getElem?_append_right (by omega), List.getElem?_replicate]
  split <;> rfl
end Go.Proofs.YtebcejncjljmhaaDoor.Po
namespace Go.Proofs.YtebcejncjljmhaaDoor.Po
open Go.RowKit Go.Shelf Go.Proofs.YtebcejncjljmhaaDoor.Mem Go.Proofs.YtebcejncjljmhaaDoor.Sum
set_option linter.unusedVariables false
attribute [local irreducible] wpList wpListIn

/-- the lesser of two numbers, the caller says which -/
theorem wpList_min {P : Program} {ops : Array Oper} {rest : List Oper} {o : Oper} {a : Act} {w : World} {Q : Exit → Act → World → Prop} (hgd : o.guard = none) (x y : Operand) (ts : Array TypeId) (ho : o.op = .call { callee := .builtin .min, args := #[x, y], argTypes := ts }) (k : IntKind) (u v r : Int) (hx : a.eval x = .int k u) (hy : a.eval y = .int k v)
    (hr : (if v < u then v else u) = r) (h : wpList P ops Q rest (a.put o.dst (.int k r)) w) : wpList P ops Q (o :: rest) a w := by
  refine wpList_plain hgd fun K hK => ?_
  unfold Oper.wp execOp
  simp [ho, resolve, invoke, builtin, hx, hy, run_min_int2, hr]
  exact hK _ _ h
theorem mod_step' (a v r : Int) : (a + v) * r % modulus = (a % modulus + v) * r % modulus := by
  have h := Int.mul_ediv_add_emod a modulus
  generalize a / modulus = q at h
  generalize a % modulus = s at h ⊢
  have e : (a + v) * r = (s + v) * r + modulus * (q * r) := by rw [← h]; grind
  rw [e, Int.add_mul_emod_self_left]
theorem wideD_get (n : Int) {i : Nat} (hi : i < 16) : (digits n 40).getD i 0 = (digits n 16).getD i 0 := by rw [digits_get 40 n i (by omega), digits_get 16 n i hi]
theorem bytes32' {xs : List Int} {B : Int} (h : ∀ x ∈ xs, 0 ≤ x ∧ x < B) (hB : B ≤ 4294967296) : ∀ z ∈ xs, (Lit.int .u32 z).wf = true := fun z hz => wf_32 (by have := h z hz; omega)

set_option maxRecDepth 100000 in
set_option maxHeartbeats 4000000 in
theorem rtag_any (key : List Int) (B : Nat) (A : Option Addr) (n c : Nat) (xs : List Int) (w : World) (hk : key.length = 32) (hkb : Bs key) (h : Ints w .u8 B A n xs) (hxb : Bs xs) (hB : B ≤ w.heap.size) (hn : n ≤ 1099511627776) :
    Calls Tryd.prog 35 #[.agg (arr .u8 key), .slice A n c] w fun e w' => e = .returned (.agg (arr .u8 (poly key xs))) ∧ Below w.heap.size w w' := by
  have HK := Lib.hid hk
  have HX := Lib.hid h.1
  have HDW := Lib.hid (fun m : Int => bytes32 (digits_bytes 40 m))
  have HDL := Lib.hid (fun m : Int => digits_length 40 m)
  have HCL := Lib.hid (clamp_length key)
  have HCW := Lib.hid (bs_wf (clamp_bytes hkb))
  have hni : (n : Int) ≤ 1099511627776 := by omega
  clear hk
  go_enter Tryd.func35, Tryd.ntmps35
  go_wp2_with (first
    | (refine wpList_box_Row (w := w) rfl 22 _ rfl .u8 key rfl (bs_wf hkb) ?_; intro w1 r1 g1 z1)
    | (refine wpList_alloc_Row (w := w1) rfl 41 rfl .u8 16 zero_16b ?_; intro w2 r2 g2 z2; have p2 := r1.grown g2 (by simp))
    | (refine wpList_load_Row (w := w2) rfl 22 _ rfl w.heap.size rfl 22 .u8 _ p2 32 5 Tryd.underlying22 (by kernel_rfl) HK.out ?_))
  obtain ⟨gr, hgr⟩ : ∃ g, w1.heap.size = g := ⟨_, rfl⟩
  have l1 := r1.lt
  have b2 : Below w.heap.size w w2 := ((Below.refl _ w).grown g1 (Nat.le_refl _) (by simp)).grown g2 g1.size (by simp)
  rw [hgr] at l1 r2 ⊢
  clear hgr r1 g1 g2 z1 z2 w1
  refine (rclamp_any key w2 HK.out hkb).mono ?_
  rintro e w3 ⟨rfl, hb3⟩
  have k3 := p2.below hb3 p2.lt
  have e3 := r2.below hb3 r2.lt
  have b3 := b2.trans (hb3.mono b2.size)
  have l3 := e3.lt
  clear p2 r2 b2 hb3 w2
  go_wp2_with (first
    | (refine wpList_alloc_Row (w := w3) rfl 41 rfl .u8 16 zero_16b ?_; intro w4 r4 g4 z4)
    | (refine wpList_store_RowTo (w := w4) rfl 41 _ _ rfl w3.heap.size rfl 41 .u8 _ (clamp key) rfl r4 16 info_16b HCL.out (by simp) HCW.out ?_; intro w5 r5 g5 z5)
    | (refine wpList_alloc_Row (w := w5) rfl 81 rfl .u32 40 zero_forty ?_; intro w6 r6 g6 z6))
  obtain ⟨gc, hgc⟩ : ∃ g, w3.heap.size = g := ⟨_, rfl⟩
  obtain ⟨ga, hga⟩ : ∃ g, w5.heap.size = g := ⟨_, rfl⟩
  have l5 := r5.lt
  rw [hgc] at l3 r5 l5 ⊢
  rw [hga] at l5 r6 ⊢
  have b6 : Below w.heap.size w w6 := ((b3.grown g4 b3.size (by simp)).grown g5 (by have := b3.size; have := g4.size; omega) (fun r e => by have := b3.size; cases e; omega)).grown g6 (by have := b3.size; have := g4.size; have := g5.size; omega) (by simp)
  have k6 := ((k3.grown g4 (by simp)).grown g5 (by intro e; injection e with e; omega)).grown g6 (by simp)
  have e6 := ((e3.grown g4 (by simp)).grown g5 (by intro e; injection e with e; omega)).grown g6 (by simp)
  have c6 := r5.grown g6 (by simp)
  have hz40 : List.replicate 40 (0 : Int) = digits 0 40 := by decide
  rw [hz40] at r6
  clear hgc hga r4 r5 g4 g5 g6 z4 z5 z6 k3 e3 b3 hz40 w3 w4 w5
  go_loopw [7] (fun i wr => ∃ (k : Nat) (m : Int), k ≤ count xs ∧ i = .int .i64 ((16 * k : Nat) : Int) ∧ Hid (0 ≤ m ∧ m < 2 ^ 130 ∧ m % modulus = acc (val (clamp key)) xs k) ∧ Below w.heap.size w wr ∧ Row wr w.heap.size 22 .u8 key ∧ Row wr gr 41 .u8 (List.replicate 16 0) ∧ Row wr gc 41 .u8 (clamp key) ∧ Row wr ga 81 .u32 (digits m 40)) (fun i _ => n - (intOf i).toNat)
  case atStart => exact ⟨0, 0, by omega, rfl, Lib.hid ⟨by omega, by omega, by simp [acc]⟩, b6, k6, e6, c6, r6⟩
  case round =>
    clear b6 k6 e6 c6 r6
    obtain ⟨k, m, hk, rfl, hm, hbl, kr, er, cr, ar⟩ := hrel
    by_cases hlt : 16 * k < n
    · have hlt' : ((16 * k : Nat) : Int) < (n : Int) := by omega
      have hk0 : (0 : Int) ≤ ((16 * k : Nat) : Int) := by omega
      obtain ⟨p, hp⟩ : ∃ p, 16 * k = p := ⟨_, rfl⟩
      rw [hp] at hlt' hk0 hlt ⊢
      obtain ⟨cl, hcl⟩ : ∃ cl, (chunk xs k).length = cl := ⟨_, rfl⟩
      have hcl2 : cl = min 16 (n - p) := by rw [← hcl, chunk_length, HX.out, hp]
      have hmin : (if (n : Int) - (p : Int) < 16 then (n : Int) - (p : Int) else 16) = (cl : Int) := by split <;> omega
      have HP := Lib.hid hp
      have HCLE := Lib.hid hcl
      have HMIN := Lib.hid hmin
      have hcl16 : cl ≤ 16 := by omega
      have hcl0 : 0 < cl := by omega
      have hcln : p + cl ≤ n := by omega
      clear hp hcl hmin hcl2
      go_wp2_with (refine wpList_min rfl _ _ _ rfl .i64 16 ((n : Int) - (p : Int)) (cl : Int) rfl rfl HMIN.out ?_)
      -- the piece is added
      have HMV := Lib.hid hm.out
      have HDM := Lib.hid (digits_bytes 40 m)
      have HVM := Lib.hid (show val (digits m 40) = m by rw [val_digits]; have := hm.out; omega)
      have HDML := HDL.out m
      generalize digits m 40 = D at *
      have hLL : D.length = (wideP xs k).length := by rw [HDML, wideP_length]
      have HFL := Lib.hid (show (addB D (wideP xs k)).length = D.length from addB_length hLL)
      have HFB := Lib.hid (addB_bound HDM.out (wideP_bytes hxb k))
      have HFV := Lib.hid (show val (addB D (wideP xs k)) = m + val (pieceAt xs k) by rw [val_addB hLL, HVM.out, wideP_val])
      have HGL := Lib.hid (fun i (hi : i < cl) => show (addB D (wideP xs k)).getD i 0 = D.getD i 0 + xs.getD (p + i) 0 by
        rw [addB_get (by omega) (by rw [wideP_length]; omega), wideP_get_lo xs k (by rw [HCLE.out]; exact hi), HP.out])
      have HGA := Lib.hid (show (addB D (wideP xs k)).getD cl 0 = D.getD cl 0 + 1 by
        rw [addB_get (by omega) (by rw [wideP_length]; omega)]
        have := wideP_get_at xs k
        rw [HCLE.out] at this
        rw [this])
      have HGH := Lib.hid (fun j (hj : cl + 1 ≤ j) (hjD : j < D.length) => show (addB D (wideP xs k)).getD j 0 = D.getD j 0 by
        rw [addB_get hjD (by rw [wideP_length]; omega), wideP_get_hi xs k (by rw [HCLE.out]; omega)]
        omega)
      have HDA := Lib.hid (fun i => HDM.out.at_ i)
      have HXA := Lib.hid (fun i => hxb.at_ i)
      have HDX := Lib.hid HDML
      clear HDML hLL
      generalize addB D (wideP xs k) = S at *
      go_loopw [9] (fun i wr => ∃ q : Nat, q ≤ cl ∧ i = .int .i64 q ∧ Below w.heap.size w wr ∧ Row wr w.heap.size 22 .u8 key ∧ Row wr gr 41 .u8 (List.replicate 16 0) ∧ Row wr gc 41 .u8 (clamp key) ∧ Row wr ga 81 .u32 (blend S D q)) (fun i _ => cl - (intOf i).toNat)
      case atStart => exact ⟨0, by omega, rfl, hbl, kr, er, cr, by rw [blend_zero]; exact ar⟩
      case round =>
        clear hbl kr er cr ar
        obtain ⟨q, hq, rfl, hbl, kr, er, cr, ar⟩ := hrel
        have hq0 : (0 : Int) ≤ (q : Int) := by omega
        by_cases hlq : q < cl
        · have hlq' : (q : Int) < (cl : Int) := by omega
          have hq40 : (q : Int) < 40 := by omega
          have hLen : S.length = D.length := HFL.out
          have hqD : q < D.length := by rw [HDX.out]; omega
          have ca := ar.cell (i := q) (by rw [blend_length hLen]; exact hqD)
          rw [blend_get hLen hqD] at ca
          obtain ⟨bb, off, rfl, hbB, hcc⟩ := h.2.2 (by omega)
          have ct := (hbl.cell (p := ⟨bb, off + (p + q), none⟩) (by simp; omega)).trans (hcc (p + q) (by omega))
          have fa := ar.frozen q
          have hg := HGL.out q hlq
          have hx := HDA.out q
          have hy := HXA.out (p + q)
          have hpq : ((p : Int) + (q : Int)) < (n : Int) := by omega
          have hpq0 : (0 : Int) ≤ (p : Int) + (q : Int) := by omega
          have hpqw : IntKind.i64.wrap ((p : Int) + (q : Int)) = (p : Int) + (q : Int) := IntWalk.i64_in _ (by omega)
          have hpqn : ((p : Int) + (q : Int)).toNat = p + q := by omega
          have HS := Lib.hid (show Row (wr.setCell ⟨ga, q, none⟩ (.int .u32 (D.getD q 0 + xs.getD (p + q) 0))) ga 81 .u32 (blend S D (q + 1)) by
            rw [← blend_set hLen hqD, hg]
            exact ar.set q (wf_32 (by omega)))
          have HE := er.other (p := ⟨ga, q, none⟩) (by simp; omega) (.int .u32 (D.getD q 0 + xs.getD (p + q) 0))
          have HE2 := kr.other (p := ⟨ga, q, none⟩) (by simp; omega) (.int .u32 (D.getD q 0 + xs.getD (p + q) 0))
          have HE3 := cr.other (p := ⟨ga, q, none⟩) (by simp; omega) (.int .u32 (D.getD q 0 + xs.getD (p + q) 0))
          have HBL := Lib.hid (hbl.setCell (p := ⟨ga, q, none⟩) (by simp; omega) (.int .u32 (D.getD q 0 + xs.getD (p + q) 0)))
          clear hLen hg ar er kr cr hbl hqD
          generalize D.getD q 0 = x at *
          generalize xs.getD (p + q) 0 = y at *
          have hcv : IntKind.u32.wrap y = y := IntWalk.u32_in _ (by omega)
          have hadd : IntKind.u32.wrap (x + y) = x + y := IntWalk.u32_in _ (by omega)
          have hadd2 : (x + y) % 4294967296 = x + y := by omega
          go_wp2_with fail
          go_still_tail 13, (by kernel_rfl)
          change wpList _ _ _ _ _ wr.drew
          go_wp2_with fail
          go_roundw
          case rel => exact ⟨q + 1, by omega, by go_num, HBL.out.drew, HE2, HE, HE3, HS.out⟩
          case measure => simp [intOf]; omega
        · obtain rfl : q = cl := by omega
          have hLen : S.length = D.length := HFL.out
          have hqD : q < D.length := by rw [HDX.out]; omega
          have ca := ar.cell (i := q) (by rw [blend_length hLen]; exact hqD)
          rw [blend_get hLen hqD] at ca
          have hx := HDA.out q
          have hset := blend_set hLen hqD
          rw [HGA.out, blend_rest hLen (q + 1) HGH.out] at hset
          have HSET := Lib.hid hset
          have HBL40 := Lib.hid (show (blend S D q).length = 40 by rw [blend_length hLen, HDX.out])
          have HSL := Lib.hid (show S.length = 40 by rw [hLen, HDX.out])
          have hvp := val_chunk_lt hxb k
          rw [← val_pieceAt] at hvp
          have hms := HMV.out
          obtain ⟨s, hs⟩ : ∃ s, m + val (pieceAt xs k) = s := ⟨_, rfl⟩
          have hs0 : 0 ≤ s := by omega
          have hs1 : s < 2 ^ 131 := by omega
          have HSE := Lib.hid hs
          have HFV' := Lib.hid (show val S = s by rw [HFV.out, hs])
          clear hset hLen hqD hlq hvp hms hs
          generalize D.getD q 0 = x at *
          have hadd : IntKind.u32.wrap (x + 1) = x + 1 := IntWalk.u32_in _ (by omega)
          have hadd2 : (x + 1) % 4294967296 = x + 1 := by omega
          have w0 : (Lit.int .u32 (x + 1)).wf = true := wf_32 (by omega)
          have hq40 : (q : Int) < 40 := by omega
          go_wp2_with (first
            | (refine wpList_store_elem (w := wr) rfl 40 _ _ rfl ga q rfl 81 .u32 _ (x + 1) rfl ar (by rw [HBL40.out]; omega) info_u32 w0 ?_; intro w4 q4 g4 z4; rw [HSET.out] at q4)
            | (refine wpList_load_Row (w := w4) rfl 81 _ rfl ga rfl 81 .u32 _ q4 40 40 Tryd.underlying81 info_forty HSL.out ?_))
          have b4 := hbl.grown g4 hbl.size (fun r e => by cases e; omega)
          have k4 := kr.grown g4 (by intro e; injection e with e; omega)
          have e4 := er.grown g4 (by intro e; injection e with e; omega)
          have c4 := cr.grown g4 (by intro e; injection e with e; omega)
          clear hbl kr er cr ar g4 z4 ca hadd hadd2 w0
          refine (rcarry_any S s w4 HSL.out (fun z hz => by have := HFB.out z hz; omega) HFV'.out).mono ?_
          rintro e w5 ⟨rfl, hb5⟩
          have b5 := b4.trans (hb5.mono b4.size)
          have k5 := k4.below hb5 k4.lt
          have e5 := e4.below hb5 e4.lt
          have c5 := c4.below hb5 c4.lt
          have q5 := q4.below hb5 q4.lt
          have hdw := HDW.out s
          have hdl := HDL.out s
          clear b4 k4 e4 c4 q4 hb5
          go_wp2_with (first
            | (refine wpList_store_RowTo (w := w5) rfl 81 _ _ rfl ga rfl 81 .u32 _ (digits s 40) rfl q5 40 info_forty hdl HSL.out hdw ?_; intro w6 q6 g6 z6)
            | (refine wpList_alloc_Row (w := w6) rfl 81 rfl .u32 40 zero_forty ?_; intro w7 r7 g7 z7))
          obtain ⟨gp, hgp⟩ : ∃ g, w6.heap.size = g := ⟨_, rfl⟩
          have lp := q6.lt
          have b7 := (b5.grown g6 b5.size (fun r e => by cases e; omega)).grown g7 (by have := b5.size; have := g6.size; omega) (by simp)
          have k7 := (k5.grown g6 (by intro e; injection e with e; omega)).grown g7 (by simp)
          have e7 := (e5.grown g6 (by intro e; injection e with e; omega)).grown g7 (by simp)
          have c7 := (c5.grown g6 (by intro e; injection e with e; omega)).grown g7 (by simp)
          have a7 := q6.grown g7 (by simp)
          rw [hgp] at lp r7 ⊢
          have HSD := Lib.hid (digits_bytes 40 s)
          have HSA := Lib.hid (fun i => (digits_bytes 40 s).at_ i)
          have HCA := Lib.hid (fun i => (clamp_bytes hkb).at_ i)
          have HPE := Lib.hid (prod_end (clamp key) hs0 (show s < 256 ^ 18 by omega))
          have HPN := Lib.hid (fun i (hi : i < 18) => show prod (digits s 40) (clamp key) i 16 = prod (digits s 40) (clamp key) (i + 1) 0 from by
            have := prod_next (s := digits s 40) (c := clamp key) (i := i) (by rw [hdl]; omega)
            rwa [clamp_length] at this)
          have HPS := Lib.hid (fun i j (hj : j < 16) => prod_step (s := digits s 40) (c := clamp key) i (j := j) (by rw [clamp_length]; exact hj))
          have HP0 := Lib.hid (prod_start (digits s 40) (clamp key))
          have HSLN := Lib.hid hdl
          clear hgp b5 k5 e5 c5 q5 q6 g6 g7 z6 z7 hdw hdl
          obtain ⟨E, hE⟩ : ∃ E, digits s 40 = E := ⟨_, rfl⟩
          rw [hE] at a7 HSD HSA HPE HP0 HSLN
          simp only [hE] at HPN HPS
          clear hE
          go_loopw [11] (fun i wr => ∃ (i' : Nat) (ps : List Int), i' ≤ 18 ∧ i = .int .i64 i' ∧ Hid (val ps = prod E (clamp key) i' 0) ∧ Hid (Small ps i' 0) ∧ Below w.heap.size w wr ∧ Row wr w.heap.size 22 .u8 key ∧ Row wr gr 41 .u8 (List.replicate 16 0) ∧ Row wr gc 41 .u8 (clamp key) ∧ Row wr ga 81 .u32 E ∧ Row wr gp 81 .u32 ps) (fun i _ => 18 - (intOf i).toNat)
          case atStart => exact ⟨0, _, by omega, rfl, Lib.hid (by rw [HP0.out, val_zeros]), Lib.hid small_start, b7, k7, e7, c7, a7, r7⟩
          case round =>
            clear b7 k7 e7 c7 a7 r7
            obtain ⟨i, ps, hi, rfl, hv, hsm, hbl, kr, er, cr, ar, pr⟩ := hrel
            have hi0 : (0 : Int) ≤ (i : Int) := by omega
            by_cases hli : i < 18
            · have hli' : (i : Int) < 18 := by omega
              go_wp2_with fail
              go_loopw [12] (fun j wr => ∃ (j' : Nat) (ps : List Int), j' ≤ 16 ∧ j = .int .i64 j' ∧ Hid (val ps = prod E (clamp key) i j') ∧ Hid (Small ps i j') ∧ Below w.heap.size w wr ∧ Row wr w.heap.size 22 .u8 key ∧ Row wr gr 41 .u8 (List.replicate 16 0) ∧ Row wr gc 41 .u8 (clamp key) ∧ Row wr ga 81 .u32 E ∧ Row wr gp 81 .u32 ps) (fun j _ => 16 - (intOf j).toNat)
              case atStart => exact ⟨0, ps, by omega, rfl, hv, hsm, hbl, kr, er, cr, ar, pr⟩
              case round =>
                clear hbl kr er cr ar pr hv hsm
                obtain ⟨j, qs, hj, rfl, hv, hsm, hbl, kr, er, cr, ar, pr⟩ := hrel
                have hj0 : (0 : Int) ≤ (j : Int) := by omega
                by_cases hlj : j < 16
                · have hlj' : (j : Int) < 16 := by omega
                  have hij : i + j < qs.length := by rw [hsm.out.1]; omega
                  have cp := pr.cell (i := i + j) hij
                  have ca := ar.cell (i := i) (by rw [HSLN.out]; omega)
                  have cc := cr.cell (i := j) (by rw [HCL.out]; exact hlj)
                  have fp := pr.frozen (i + j)
                  have hx := HSA.out i
                  have hy := HCA.out j
                  have hz := hsm.out.2.1 (i + j)
                  have hxy := byte_mul hx hy
                  have hset := val_set qs (i + j) (qs.getD (i + j) 0 + E.getD i 0 * (clamp key).getD j 0) hij
                  have HV := Lib.hid (show val (qs.set (i + j) (qs.getD (i + j) 0 + E.getD i 0 * (clamp key).getD j 0)) = prod E (clamp key) i (j + 1) by
                    rw [hset, HPS.out i j hlj, hv.out, (fun a b => by omega : ∀ a b : Int, a + b - a = b)])
                  have HSM := Lib.hid (hsm.out.step (by omega) hxy)
                  have HS := Lib.hid (show Row (wr.setCell ⟨gp, i + j, none⟩ (.int .u32 (qs.getD (i + j) 0 + E.getD i 0 * (clamp key).getD j 0))) gp 81 .u32 (qs.set (i + j) (qs.getD (i + j) 0 + E.getD i 0 * (clamp key).getD j 0)) from pr.set (i + j) (wf_32 (by omega)))
                  have HE := er.other (p := ⟨gp, i + j, none⟩) (by simp; omega) (.int .u32 (qs.getD (i + j) 0 + E.getD i 0 * (clamp key).getD j 0))
                  have HE2 := kr.other (p := ⟨gp, i + j, none⟩) (by simp; omega) (.int .u32 (qs.getD (i + j) 0 + E.getD i 0 * (clamp key).getD j 0))
                  have HE3 := cr.other (p := ⟨gp, i + j, none⟩) (by simp; omega) (.int .u32 (qs.getD (i + j) 0 + E.getD i 0 * (clamp key).getD j 0))
                  have HE4 := ar.other (p := ⟨gp, i + j, none⟩) (by simp; omega) (.int .u32 (qs.getD (i + j) 0 + E.getD i 0 * (clamp key).getD j 0))
                  have HBL := Lib.hid (hbl.setCell (p := ⟨gp, i + j, none⟩) (by simp; omega) (.int .u32 (qs.getD (i + j) 0 + E.getD i 0 * (clamp key).getD j 0)))
                  clear hset er kr cr ar pr hbl hij
                  generalize qs.getD (i + j) 0 = z at *
                  generalize E.getD i 0 = x at *
                  generalize (clamp key).getD j 0 = y at *
                  have hcv : IntKind.u32.wrap y = y := IntWalk.u32_in _ (by omega)
                  have hmul : IntKind.u32.wrap (x * y) = x * y := IntWalk.u32_in _ (by omega)
                  have hadd : IntKind.u32.wrap (z + x * y) = z + x * y := IntWalk.u32_in _ (by omega)
                  have hadd2 : (z + x * y) % 4294967296 = z + x * y := by omega
                  have hmul2 : (x * y) % 4294967296 = x * y := by omega
                  have hijw : IntKind.i64.wrap ((i : Int) + (j : Int)) = (i : Int) + (j : Int) := IntWalk.i64_in _ (by omega)
                  have hij40 : (i : Int) + (j : Int) < 40 := by omega
                  have hij0 : (0 : Int) ≤ (i : Int) + (j : Int) := by omega
                  have hi40 : (i : Int) < 40 := by omega
                  have hijn : ((i : Int) + (j : Int)).toNat = i + j := by omega
                  go_wp2_with fail
                  go_still_tail 18, (by kernel_rfl)
                  change wpList _ _ _ _ _ wr.drew
                  go_wp2_with fail
                  go_roundw
                  case rel => exact ⟨j + 1, _, by omega, by go_num, HV, HSM, HBL.out.drew, HE2, HE, HE3, HE4, HS.out⟩
                  case measure => simp [intOf]; omega
                · obtain rfl : j = 16 := by omega
                  rw [HPN.out i hli] at hv
                  go_wp2_with fail
                  go_roundw
                  case rel => exact ⟨i + 1, qs, by omega, by go_num, hv, Lib.hid hsm.out.next, hbl, kr, er, cr, ar, pr⟩
                  case measure => simp [intOf]; omega
            · have hi18 : i = 18 := by omega
              have hnl : ¬ (i : Int) < 18 := by omega
              rw [hi18] at hv hsm
              rw [HPE.out] at hv
              have hvc := val_clamp_lt hkb
              have hms := mul_small hs0 hs1 hvc.1 hvc.2
              have hr4 := reds_four hms.1 hms.2
              have hmod : reds (s * val (clamp key)) 4 % modulus = acc (val (clamp key)) xs (k + 1) := by
                rw [reds_mod, step_eq, ← HSE.out, ← HMV.out.2.2]
                exact mod_step' _ _ _
              have HNEW := Lib.hid (show 0 ≤ reds (s * val (clamp key)) 4 ∧ reds (s * val (clamp key)) 4 < 2 ^ 130 ∧ reds (s * val (clamp key)) 4 % modulus = acc (val (clamp key)) xs (k + 1) from ⟨hr4.1, hr4.2, hmod⟩)
              have HPLN := Lib.hid hsm.out.1
              have HPB := Lib.hid (hsm.out.bound (by omega))
              have hkc : k + 1 ≤ count xs := by
                have := HP.out
                have := HX.out
                unfold count
                omega
              have hat : Hid ((p : Int) + 16 = ((16 * (k + 1) : Nat) : Int)) := Lib.hid (by have := HP.out; omega)
              clear hi18 hli hi hi0 hmod hr4 hvc HPN HPS HP0 HPE
              go_wp2_with (refine wpList_load_Row (w := wr) rfl 81 _ rfl gp rfl 81 .u32 _ pr 40 40 Tryd.underlying81 info_forty HPLN.out ?_)
              refine (rcarry_any ps _ wr HPLN.out HPB.out hv.out).mono ?_
              rintro e w8 ⟨rfl, hb8⟩
              go_wp2_with fail
              refine (rreduce_any _ w8 hms.1 hms.2).mono ?_
              rintro e w9 ⟨rfl, hb9⟩
              have hb := hb8.trans (hb9.mono hb8.size)
              have b9 := hbl.trans (hb.mono hbl.size)
              have k9 := kr.below hb kr.lt
              have e9 := er.below hb er.lt
              have c9 := cr.below hb cr.lt
              have a9 := ar.below hb ar.lt
              have hdw := HDW.out (reds (s * val (clamp key)) 4)
              have hdl := HDL.out (reds (s * val (clamp key)) 4)
              clear hbl kr er cr ar pr hb8 hb9 hb hms
              go_wp2_with (refine wpList_store_RowTo (w := w9) rfl 81 _ _ rfl ga rfl 81 .u32 _ (digits (reds (s * val (clamp key)) 4) 40) rfl a9 40 info_forty hdl HSLN.out hdw ?_; intro w10 q10 g10 z10)
              go_roundw
              case rel => exact ⟨k + 1, _, hkc, by rw [hat.out], HNEW, b9.grown g10 b9.size (fun r e => by cases e; omega), k9.grown g10 (by intro e; injection e with e; omega), e9.grown g10 (by intro e; injection e with e; omega), c9.grown g10 (by intro e; injection e with e; omega), q10⟩
              case measure => simp [intOf]; omega
    · have hkc : k = count xs := by
        have := HX.out
        unfold count at hk ⊢
        omega
      have hnl : ¬ ((16 * k : Nat) : Int) < (n : Int) := by omega
      have HMV := Lib.hid hm.out
      have hm0 := hm.out.1
      have hm1 := hm.out.2.1
      have hacc : m % modulus = acc (val (clamp key)) xs (count xs) := by rw [← hkc]; exact hm.out.2.2
      have HACC := Lib.hid hacc
      have hdl := HDL.out m
      obtain ⟨p, hp⟩ : ∃ p, 16 * k = p := ⟨_, rfl⟩
      rw [hp] at hnl ⊢
      clear hacc hkc hk hlt hp hm
      go_wp2_with (refine wpList_load_Row (w := wr) rfl 81 _ rfl ga rfl 81 .u32 _ ar 40 40 Tryd.underlying81 info_forty hdl ?_)
      refine (rleast_any m wr hm0 hm1).mono ?_
      rintro e w3 ⟨rfl, hb3⟩
      have b3 := hbl.trans (hb3.mono hbl.size)
      have k3 := kr.below hb3 kr.lt
      have e3 := er.below hb3 er.lt
      have a3 := ar.below hb3 ar.lt
      have hdw2 := HDW.out (m % modulus)
      have hdl2 := HDL.out (m % modulus)
      clear hbl kr er cr ar hb3
      go_wp2_with (refine wpList_store_RowTo (w := w3) rfl 81 _ _ rfl ga rfl 81 .u32 _ (digits (m % modulus) 40) rfl a3 40 info_forty hdl2 hdl hdw2 ?_; intro w4 q4 g4 z4)
      have b4 := b3.grown g4 b3.size (fun r e => by cases e; omega)
      have k4 := k3.grown g4 (by intro e; injection e with e; omega)
      have e4 := e3.grown g4 (by intro e; injection e with e; omega)
      have hmm : 0 ≤ m % modulus ∧ m % modulus < 2 ^ 130 := ⟨Int.emod_nonneg _ (by unfold modulus; omega), by have := Int.emod_lt_of_pos m (show (0 : Int) < modulus by unfold modulus; omega); unfold modulus at this ⊢; omega⟩
      have hvm : val (digits (m % modulus) 40) = m % modulus := by rw [val_digits]; omega
      have hLL : (digits (m % modulus) 40).length = (wideH key).length := by rw [hdl2, wideH_length HK.out]
      have HFL := Lib.hid (show (addB (digits (m % modulus) 40) (wideH key)).length = 40 by rw [addB_length hLL, hdl2])
      have HFB := Lib.hid (addB_bound (digits_bytes 40 (m % modulus)) (wideH_bytes hkb))
      have HFV := Lib.hid (show val (addB (digits (m % modulus) 40) (wideH key)) = m % modulus + val ((key.drop 16).take 16) by rw [val_addB hLL, hvm, wideH_val])
      have HGL := Lib.hid (fun i (hi : i < 16) => show (addB (digits (m % modulus) 40) (wideH key)).getD i 0 = (digits (m % modulus) 40).getD i 0 + key.getD (16 + i) 0 by
        rw [addB_get (by rw [hdl2]; omega) (by rw [wideH_length HK.out]; omega), wideH_get HK.out hi])
      have HGH := Lib.hid (fun j (hj : 16 ≤ j) (hjD : j < (digits (m % modulus) 40).length) => show (addB (digits (m % modulus) 40) (wideH key)).getD j 0 = (digits (m % modulus) 40).getD j 0 by
        rw [addB_get hjD (by rw [wideH_length HK.out, ← hdl2]; exact hjD), wideH_get_hi HK.out hj]
        omega)
      have HDA := Lib.hid (fun i => (digits_bytes 40 (m % modulus)).at_ i)
      have HKA := Lib.hid (fun i => hkb.at_ i)
      have HDX := Lib.hid hdl2
      obtain ⟨D, hD⟩ : ∃ D, digits (m % modulus) 40 = D := ⟨_, rfl⟩
      rw [hD] at q4 HFL HFB HFV HDX
      simp only [hD] at HGL HGH HDA
      clear hD hvm hLL hdl hdl2 hdw2 b3 k3 e3 a3 g4 z4 hmm
      obtain ⟨S, hS⟩ : ∃ S, addB D (wideH key) = S := ⟨_, rfl⟩
      rw [hS] at HFL HFB HFV
      simp only [hS] at HGL HGH
      clear hS
      go_loopw [13] (fun i wr => ∃ q : Nat, q ≤ 16 ∧ i = .int .i64 q ∧ Below w.heap.size w wr ∧ Row wr w.heap.size 22 .u8 key ∧ Row wr gr 41 .u8 (List.replicate 16 0) ∧ Row wr ga 81 .u32 (blend S D q)) (fun i _ => 16 - (intOf i).toNat)
      case atStart => exact ⟨0, by omega, rfl, b4, k4, e4, by rw [blend_zero]; exact q4⟩
      case round =>
        clear b4 k4 e4 q4
        obtain ⟨q, hq, rfl, hbl, kr, er, ar⟩ := hrel
        have hq0 : (0 : Int) ≤ (q : Int) := by omega
        have hLen : S.length = D.length := by rw [HFL.out, HDX.out]
        by_cases hlq : q < 16
        · have hlq' : (q : Int) < 16 := by omega
          have hq40 : (q : Int) < 40 := by omega
          have hqk : (16 : Int) + (q : Int) < 32 := by omega
          have hqD : q < D.length := by rw [HDX.out]; omega
          have ca := ar.cell (i := q) (by rw [blend_length hLen]; exact hqD)
          rw [blend_get hLen hqD] at ca
          have ck := kr.cell (i := 16 + q) (by rw [HK.out]; omega)
          have fa := ar.frozen q
          have hg := HGL.out q hlq
          have hx := HDA.out q
          have hy := HKA.out (16 + q)
          have HS := Lib.hid (show Row (wr.setCell ⟨ga, q, none⟩ (.int .u32 (D.getD q 0 + key.getD (16 + q) 0))) ga 81 .u32 (blend S D (q + 1)) by
            rw [← blend_set hLen hqD, hg]
            exact ar.set q (wf_32 (by omega)))
          have HE := er.other (p := ⟨ga, q, none⟩) (by simp; omega) (.int .u32 (D.getD q 0 + key.getD (16 + q) 0))
          have HE2 := kr.other (p := ⟨ga, q, none⟩) (by simp; omega) (.int .u32 (D.getD q 0 + key.getD (16 + q) 0))
          have HBL := Lib.hid (hbl.setCell (p := ⟨ga, q, none⟩) (by simp; omega) (.int .u32 (D.getD q 0 + key.getD (16 + q) 0)))
          clear hLen hg ar er kr hbl hqD
          generalize D.getD q 0 = x at *
          generalize key.getD (16 + q) 0 = y at *
          have hcv : IntKind.u32.wrap y = y := IntWalk.u32_in _ (by omega)
          have hadd : IntKind.u32.wrap (x + y) = x + y := IntWalk.u32_in _ (by omega)
          have hadd2 : (x + y) % 4294967296 = x + y := by omega
          have hqw : IntKind.i64.wrap ((16 : Int) + (q : Int)) = (16 : Int) + (q : Int) := IntWalk.i64_in _ (by omega)
          have hqn : ((16 : Int) + (q : Int)).toNat = 16 + q := by omega
          have hq160 : (0 : Int) ≤ (16 : Int) + (q : Int) := by omega
          go_wp2_with fail
          go_still_tail 11, (by kernel_rfl)
          change wpList _ _ _ _ _ wr.drew
          go_wp2_with fail
          go_roundw
          case rel => exact ⟨q + 1, by omega, by go_num, HBL.out.drew, HE2, HE, HS.out⟩
          case measure => simp [intOf]; omega
        · have hq16 : q = 16 := by omega
          have hnl2 : ¬ (q : Int) < 16 := by omega
          rw [hq16, blend_rest hLen 16 HGH.out] at ar
          clear hq16 hlq hq hLen
          go_wp2_with (refine wpList_load_Row (w := wr) rfl 81 _ rfl ga rfl 81 .u32 _ ar 40 40 Tryd.underlying81 info_forty HFL.out ?_)
          refine (rcarry_any S _ wr HFL.out (fun z hz => by have := HFB.out z hz; omega) HFV.out).mono ?_
          rintro e w5 ⟨rfl, hb5⟩
          have b5 := hbl.trans (hb5.mono hbl.size)
          have e5 := er.below hb5 er.lt
          have a5 := ar.below hb5 ar.lt
          have hz : poly key xs = digits (m % modulus + val ((key.drop 16).take 16)) 16 := by rw [poly, HACC.out]
          have HZ := Lib.hid hz
          have hwg := fun i (hi : i < 16) => wideD_get (m % modulus + val ((key.drop 16).take 16)) hi
          rw [← hz] at hwg
          have HWG := Lib.hid hwg
          have hdw := HDW.out (m % modulus + val ((key.drop 16).take 16))
          have hdl := HDL.out (m % modulus + val ((key.drop 16).take 16))
          clear hbl kr er ar hb5 hz hwg
          obtain ⟨Z, hZ⟩ : ∃ Z, digits (m % modulus + val ((key.drop 16).take 16)) 40 = Z := ⟨_, rfl⟩
          have HZA := Lib.hid (fun i => (digits_bytes 40 (m % modulus + val ((key.drop 16).take 16))).at_ i)
          simp only [hZ] at HWG HZA
          rw [hZ] at hdw hdl ⊢
          clear hZ HGL HGH HFV
          go_wp2_with (first
            | (refine wpList_store_RowTo (w := w5) rfl 81 _ _ rfl ga rfl 81 .u32 _ Z rfl a5 40 info_forty hdl HFL.out hdw ?_; intro w6 q6 g6 z6)
            | (refine wpList_alloc_Row (w := w6) rfl 41 rfl .u8 16 zero_16b ?_; intro w7 r7 g7 z7))
          obtain ⟨gp, hgp⟩ : ∃ g, w6.heap.size = g := ⟨_, rfl⟩
          have lp := q6.lt
          have b7 := (b5.grown g6 b5.size (fun r e => by cases e; omega)).grown g7 (by have := b5.size; have := g6.size; omega) (by simp)
          have e7 := (e5.grown g6 (by intro e; injection e with e; omega)).grown g7 (by simp)
          have a7 := q6.grown g7 (by simp)
          rw [hgp] at lp r7 ⊢
          have HPL := Lib.hid (poly_length key xs)
          have HPW := Lib.hid (bs_wf (poly_bytes key xs))
          have HZL := Lib.hid hdl
          clear hgp b5 e5 a5 q6 g6 g7 z6 z7 hdw hdl
          obtain ⟨T, hT⟩ : ∃ T, poly key xs = T := ⟨_, rfl⟩
          rw [hT] at HPL HPW
          simp only [hT] at HWG
          have HTE := Lib.hid hT
          clear hT HZ
          go_loopw [15] (fun i wr => ∃ q : Nat, q ≤ 16 ∧ i = .int .i64 q ∧ Below w.heap.size w wr ∧ Row wr gr 41 .u8 (List.replicate 16 0) ∧ Row wr ga 81 .u32 Z ∧ Row wr gp 41 .u8 (blend T (List.replicate 16 0) q)) (fun i _ => 16 - (intOf i).toNat)
          case atStart => exact ⟨0, by omega, rfl, b7, e7, a7, by rw [blend_zero]; exact r7⟩
          case round =>
            clear b7 e7 a7 r7
            obtain ⟨q, hq, rfl, hbl, er, ar, pr⟩ := hrel
            have hq0 : (0 : Int) ≤ (q : Int) := by omega
            have hLen : T.length = (List.replicate 16 (0 : Int)).length := by rw [HPL.out]; simp
            by_cases hlq : q < 16
            · have hlq' : (q : Int) < 16 := by omega
              have hq40 : (q : Int) < 40 := by omega
              have ca := ar.cell (i := q) (by rw [HZL.out]; omega)
              have hset := blend_set hLen (i := q) (by simpa using hlq)
              rw [← HWG.out q hlq] at hset
              have HSET := Lib.hid hset
              have HBL := Lib.hid (show (blend T (List.replicate 16 0) q).length = 16 by rw [blend_length hLen]; simp)
              have hx := HZA.out q
              clear hset hLen
              generalize Z.getD q 0 = x at *
              have hcv : IntKind.u8.wrap x = x := IntWalk.u8_in _ (by omega)
              have hcv2 : x % 256 = x := by omega
              have w0 : (Lit.int .u8 x).wf = true := wf_byte hx
              go_wp2_with (refine wpList_store_elem (w := wr) rfl 5 _ _ rfl gp q rfl 41 .u8 _ x rfl pr (by rw [HBL.out]; exact hlq) info_u8 w0 ?_; intro w8 q8 g8 z8; rw [HSET.out] at q8)
              go_roundw
              case rel => exact ⟨q + 1, by omega, by go_num, hbl.grown g8 hbl.size (fun r e => by cases e; omega), er.grown g8 (by intro e; injection e with e; omega), ar.grown g8 (by intro e; injection e with e; omega), q8⟩
              case measure => simp [intOf]; omega
            · have hq16 : q = 16 := by omega
              have hnl3 : ¬ (q : Int) < 16 := by omega
              have hz : blend T (List.replicate 16 0) 16 = T := blend_all (F := T) (a := List.replicate 16 0) (by rw [HPL.out]; simp)
              rw [hq16, hz] at pr
              clear hz hq16 hlq hq hLen
              go_wp2_with (first
                | (refine wpList_load_Row (w := wr) rfl 41 _ rfl gp rfl 41 .u8 _ pr 16 5 Tryd.underlying41 info_16b HPL.out ?_)
                | (refine wpList_store_RowTo (w := wr) rfl 41 _ _ rfl gr rfl 41 .u8 _ T rfl er 16 info_16b HPL.out (by simp) HPW.out ?_; intro w8 q8 g8 z8))
              refine bodyPost_ret (results_Row rfl _ _ gr _ _ _ rfl q8 16 5 Tryd.underlying41 info_16b HPL.out) rfl ?_
              exact ⟨by rw [HTE.out], hbl.grown g8 hbl.size (fun r e => by cases e; omega)⟩
end Go.Proofs.YtebcejncjljmhaaDoor.Po
namespace Go.Proofs.YtebcejncjljmhaaDoor.Ae
open Go.RowKit Go.Shelf Go.Proofs.YtebcejncjljmhaaDoor.Mem Go.Proofs.YtebcejncjljmhaaDoor.Help Go.Proofs.YtebcejncjljmhaaDoor.Sum Go.Proofs.YtebcejncjljmhaaDoor.Po Go.Proofs.YtebcejncjljmhaaDoor
set_option linter.unusedVariables false
attribute [local irreducible] wpList wpListIn

theorem size_32b : (Tryd.prog.info? 22).map (·.size) = some 32 := by kernel_rfl
theorem size_12b : (Tryd.prog.info? 23).map (·.size) = some 12 := by kernel_rfl
theorem _root_.Go.Proofs.YtebcejncjljmhaaDoor.Mem.Row.wf_at {w : World} {g : Nat} {t : TypeId} {k : IntKind} {zs : List Int} (h : Row w g t k zs) {i : Nat} (hi : i < zs.length) : (Lit.int k (zs.getD i 0)).wf = true := by
  rw [List.getD_eq_getElem?_getD, List.getElem?_eq_getElem hi]
  exact h.1 _ (List.getElem_mem hi)
theorem size_1b : (Tryd.prog.info? 5).map (·.size) = some 1 := by kernel_rfl
theorem zero_32b : (Tryd.prog.info? 22).bind (·.zero) = some (.agg (arr .u8 (List.replicate 32 0))) := by kernel_rfl
set_option maxRecDepth 100000 in
set_option maxHeartbeats 4000000 in
theorem rtag_ae (key nonce : List Int) (B : Nat) (A : Option Addr) (n c : Nat) (xs : List Int) (B2 : Nat) (A2 : Option Addr) (n2 c2 : Nat) (ys : List Int) (w : World) (hk : key.length = 32) (hkb : Bs key) (hnl : nonce.length = 12) (hnb : Bs nonce)
    (h : Ints w .u8 B A n xs) (hB : B ≤ w.heap.size) (hn : n ≤ 274877906944) (h2 : Ints w .u8 B2 A2 n2 ys) (hB2 : B2 ≤ w.heap.size) (hn2 : n2 ≤ 274877906944) :
    Calls Tryd.prog 24 #[.agg (arr .u8 key), .agg (arr .u8 nonce), .slice A n c, .slice A2 n2 c2] w fun e w' => e = .returned (.agg (arr .u8 (aeTag key nonce xs ys))) ∧ Below w.heap.size w w' := by
  have HK := Lib.hid hk
  have HN := Lib.hid hnl
  have HX := Lib.hid h.1
  have HY := Lib.hid h2.1
  clear hk hnl
  go_enter Tryd.func24, Tryd.ntmps24
  go_wp2_with (first
    | (refine wpList_box_Row (w := w) rfl 22 _ rfl .u8 key rfl (bs_wf hkb) ?_; intro w1 r1 g1 z1)
    | (refine wpList_box_Row (w := w1) rfl 23 _ rfl .u8 nonce rfl (bs_wf hnb) ?_; intro w2 r2 g2 z2; have r12 := r1.grown g2 (by simp))
    | (refine wpList_alloc_Row (w := w2) rfl 41 rfl .u8 16 zero_16b ?_; intro w3 r3 g3 z3; have r13 := r12.grown g3 (by simp); have r23 := r2.grown g3 (by simp))
    | (refine wpList_load_Row (w := w3) rfl 22 _ rfl w.heap.size rfl 22 .u8 _ r13 32 5 Tryd.underlying22 size_32b HK.out ?_)
    | (refine wpList_load_Row (w := w3) rfl 23 _ rfl w1.heap.size rfl 23 .u8 _ r23 12 5 Tryd.underlying23 size_12b HN.out ?_))
  obtain ⟨gr, hgr⟩ : ∃ g, w2.heap.size = g := ⟨_, rfl⟩
  have hg0 : w.heap.size < gr := by have := r12.lt; omega
  have b3 : Below w.heap.size w w3 := (((Below.refl _ w).grown g1 (Nat.le_refl _) (by simp)).grown g2 g1.size (by simp)).grown g3 (Nat.le_trans g1.size g2.size) (by simp)
  rw [hgr] at r3 ⊢
  clear hgr r1 r2 r12 r13 r23 g1 g2 g3 z1 z2 z3
  refine (Cha.rblock_any key nonce 0 w3 HK.out hkb HN.out hnb ⟨by omega, by omega⟩).mono ?_
  rintro e w4 ⟨rfl, hb4⟩
  have r4 := r3.below hb4 r3.lt
  have b4 := b3.trans (hb4.mono b3.size)
  have l4 := r4.lt
  clear r3 b3 hb4
  obtain ⟨F, hF⟩ : ∃ F, Cc.block key 0 nonce = F := ⟨_, rfl⟩
  have HFB := Lib.hid (show Bs F by rw [← hF]; exact Cc.block_bytes _ _ _)
  have HFL := Lib.hid (show F.length = 64 by rw [← hF]; exact Cc.block_length _ _ _)
  have HF := Lib.hid hF
  rw [hF]
  clear hF
  go_wp2_with (first
    | (refine wpList_alloc_Row (w := w4) rfl 48 rfl .u8 64 Cha.zero_64 ?_; intro w5 r5 g5 z5)
    | (refine wpList_store_RowTo (w := w5) rfl 48 _ _ rfl w4.heap.size rfl 48 .u8 _ F rfl r5 64 Cha.info_64 HFL.out (by simp) (bs_wf HFB.out) ?_; intro w6 r6 g6 z6)
    | (refine wpList_alloc_Row (w := w6) rfl 22 rfl .u8 32 zero_32b ?_; intro w7 r7 g7 z7))
  obtain ⟨gf, hgf⟩ : ∃ g, w4.heap.size = g := ⟨_, rfl⟩
  obtain ⟨gk, hgk⟩ : ∃ g, w6.heap.size = g := ⟨_, rfl⟩
  have b7 : Below w.heap.size w w7 := (((b4.grown g5 b4.size (by simp)).grown g6 (Nat.le_trans b4.size g5.size) (fun r e => by have := b4.size; cases e; omega)).grown g7 (Nat.le_trans b4.size (Nat.le_trans g5.size g6.size)) (by simp))
  have e7 := ((r4.grown g5 (by simp)).grown g6 (by intro e; injection e with e; omega)).grown g7 (by simp)
  have f7 := r6.grown g7 (by simp)
  have lf := r6.lt
  rw [hgf] at lf f7 l4 ⊢
  rw [hgk] at lf r7 ⊢
  have lk := r7.lt
  clear hgf hgk r4 r5 r6 g5 g6 g7 z5 z6 z7 b4 w5 w6
  obtain ⟨K1, hK1⟩ : ∃ K1, F.take 32 = K1 := ⟨_, rfl⟩
  have HKL : Hid (K1.length = 32) := Lib.hid (by rw [← hK1, List.length_take, HFL.out]; rfl)
  have HKB : Hid (Bs K1) := Lib.hid (fun z hz => HFB.out z (List.mem_of_mem_take (by rw [← hK1] at hz; exact hz)))
  have HKG := Lib.hid (fun q (hq : q < 32) => show K1.getD q 0 = F.getD q 0 by rw [← hK1]; simp [List.getD_eq_getElem?_getD, hq])
  have HK1 := Lib.hid (show K1 = macKey key nonce by rw [← hK1, macKey, HF.out])
  clear hK1
  go_loopw [11] (fun i wr => ∃ q : Nat, q ≤ 32 ∧ i = .int .i64 q ∧ Below w.heap.size w wr ∧ Row wr gr 41 .u8 (List.replicate 16 0) ∧ Row wr gf 48 .u8 F ∧ Row wr gk 22 .u8 (blend K1 (List.replicate 32 0) q)) (fun i _ => 32 - (intOf i).toNat)
  case atStart => exact ⟨0, by omega, rfl, b7, e7, f7, by rw [blend_zero]; exact r7⟩
  case round =>
    clear b7 e7 f7 r7
    obtain ⟨q, hq, rfl, hbl, er, fr, kr⟩ := hrel
    have hq0 : (0 : Int) ≤ (q : Int) := by omega
    have hLen : K1.length = (List.replicate 32 (0 : Int)).length := by rw [HKL.out]; rfl
    by_cases hlq : q < 32
    · have hlq' : (q : Int) < 32 := by omega
      have hq64 : (q : Int) < 64 := by omega
      have cf := fr.cell (i := q) (by rw [HFL.out]; omega)
      have hset := blend_set hLen (i := q) (by simpa using hlq)
      rw [HKG.out q hlq] at hset
      have HSET := Lib.hid hset
      have HBLN := Lib.hid (show q < (blend K1 (List.replicate 32 0) q).length by rw [blend_length hLen]; simpa using hlq)
      have HWF := Lib.hid (show (Lit.int .u8 (F.getD q 0)).wf = true from fr.wf_at (by rw [HFL.out]; omega))
      clear hset hLen hlq
      generalize F.getD q 0 = x at *
      go_wp2_with (refine wpList_store_elem (w := wr) rfl 5 _ _ rfl gk q rfl 22 .u8 _ x rfl kr HBLN.out size_1b HWF.out ?_; intro w8 r8 g8 z8)
      rw [HSET.out] at r8
      have hbz := hbl.grown g8 hbl.size (fun r e => by cases e; omega)
      have er8 := er.grown g8 (by intro e; injection e with e; omega)
      have fr8 := fr.grown g8 (by intro e; injection e with e; omega)
      go_roundw
      case rel => exact ⟨q + 1, by omega, by go_num, hbz, er8, fr8, r8⟩
      case measure => simp [intOf]; omega
    · obtain rfl : q = 32 := by omega
      have hall := blend_all hLen
      have h32 : (List.replicate 32 (0 : Int)).length = 32 := by simp
      rw [h32] at hall
      rw [hall] at kr
      clear hall h32 hLen hlq
      go_wp2_with fail
      have hP1 := padN_lt xs.length
      have hP2 := padN_lt ys.length
      have hL1 : (padL xs).length ≤ 274877906960 := by rw [padL_length, HX.out]; rw [HX.out] at hP1; omega
      have hL2 : (padL ys).length ≤ 274877906960 := by rw [padL_length, HY.out]; rw [HY.out] at hP2; omega
      have HTX := Lib.hid (show text xs ys = padL xs ++ padL ys ++ digits (n : Int) 8 ++ digits (n2 : Int) 8 by rw [text, HX.out, HY.out])
      have hxs := hbl.size
      clear hP1 hP2
      refine (padded_any B A n c xs wr (h.below (hbl.mono hB)) (by omega)).mono ?_
      rintro e w8 ⟨A8, c8, rfl, o8, hb8⟩
      have ys8 := h2.below ((hbl.trans (hb8.mono hbl.size)).mono hB2)
      have kr8 := kr.below hb8 kr.lt
      have er8 := er.below hb8 er.lt
      have b8 := hbl.trans (hb8.mono hbl.size)
      have lr := kr.lt
      have le := er.lt
      have s8 := hb8.size
      clear hb8 kr er fr
      obtain ⟨P1, hPP1⟩ : ∃ P, padL xs = P := ⟨_, rfl⟩
      rw [hPP1] at o8 hL1 HTX ⊢
      obtain ⟨m8, hm8⟩ : ∃ m, P1.length = m := ⟨_, rfl⟩
      have HM8 := Lib.hid hm8
      rw [hm8] at o8 hL1 ⊢
      clear hPP1 hm8
      go_wp2_with fail
      refine (padded_any B2 A2 n2 c2 ys w8 ys8 (by omega)).mono ?_
      rintro e w9 ⟨A9, c9, rfl, o9, hb9⟩
      obtain ⟨P2, hPP2⟩ : ∃ P, padL ys = P := ⟨_, rfl⟩
      rw [hPP2] at o9 hL2 HTX ⊢
      obtain ⟨m9, hm9⟩ : ∃ m, P2.length = m := ⟨_, rfl⟩
      have HM9 := Lib.hid hm9
      rw [hm9] at o9 hL2 ⊢
      clear hPP2
      obtain ⟨_, _, ev, _, _, i9⟩ := o9.form
      rw [hm9] at ev i9
      cases ev
      clear hm9
      have o89 := o8.below (hb9.mono (by omega))
      have kr9 := kr8.below hb9 kr8.lt
      have er9 := er8.below hb9 er8.lt
      have b9 := b8.trans (hb9.mono b8.size)
      have s9 : wr.heap.size ≤ w9.heap.size := Nat.le_trans s8 hb9.size
      clear ys8 kr8 er8 b8 hb9 o8 o9 hbl s8
      go_wp2_with (at_builtin; refine wpList_append_ints w9 rfl _ _ 24 rfl wr.heap.size 5 .u8 1 Tryd.underlying24 info_u8 (.slice A8 m8 c8) P1 rfl o89 w9.heap.size A9 m9 c9 P2 rfl i9 (by rw [HM8.out]; omega) (by omega) s9 ?_; intro va wa oa ga ta)
      have kra := kr9.grown ga (fun e => by have := (o89.2.lt _ e.symm).1; omega)
      have era := er9.grown ga (fun e => by have := (o89.2.lt _ e.symm).1; omega)
      have ba := b9.grown ga b9.size (fun r e => by have := (o89.2.lt r e).1; omega)
      have sa : wr.heap.size ≤ wa.heap.size := Nat.le_trans s9 ga.size
      clear kr9 er9 b9 s9 o89 i9 ga ta
      obtain ⟨Aa, ca, rfl, _, _, _⟩ := oa.form
      obtain ⟨ma, hma⟩ : ∃ m, (P1 ++ P2).length = m := ⟨_, rfl⟩
      have hLa : ma ≤ 549755813920 := by rw [← hma, List.length_append, HM8.out, HM9.out]; omega
      rw [hma] at oa ⊢
      have HMA := Lib.hid hma
      clear hma
      go_wp2_with fail
      refine (eight_any (n : Int) wa (by omega) (by omega)).mono ?_
      rintro e wb ⟨Ab, cb, rfl, ob, hbb⟩
      have ib : Ints wb .u8 wb.heap.size Ab 8 (digits (n : Int) 8) := by
        obtain ⟨_, _, ev, _, _, i⟩ := ob.form
        rw [digits_length] at ev i
        cases ev
        exact i
      have oab := oa.below hbb
      have krb := kra.below hbb kra.lt
      have erb := era.below hbb era.lt
      have bb := ba.trans (hbb.mono ba.size)
      have sb : wr.heap.size ≤ wb.heap.size := Nat.le_trans sa hbb.size
      clear oa kra era ba sa ob hbb
      go_wp2_with (at_builtin; refine wpList_append_ints wb rfl _ _ 24 rfl wr.heap.size 5 .u8 1 Tryd.underlying24 info_u8 (.slice Aa ma ca) (P1 ++ P2) rfl oab wb.heap.size Ab 8 cb (digits (n : Int) 8) rfl ib (by rw [HMA.out]; omega) (by omega) sb ?_; intro vd wd od gd td)
      have krd := krb.grown gd (fun e => by have := (oab.2.lt _ e.symm).1; omega)
      have erd := erb.grown gd (fun e => by have := (oab.2.lt _ e.symm).1; omega)
      have bd := bb.grown gd bb.size (fun r e => by have := (oab.2.lt r e).1; omega)
      have sd : wr.heap.size ≤ wd.heap.size := Nat.le_trans sb gd.size
      clear krb erb bb sb oab ib gd td
      obtain ⟨Ad, cd, rfl, _, _, _⟩ := od.form
      obtain ⟨md, hmd⟩ : ∃ m, (P1 ++ P2 ++ digits (n : Int) 8).length = m := ⟨_, rfl⟩
      have hLd : md ≤ 549755813928 := by rw [← hmd, List.length_append, HMA.out, digits_length]; omega
      rw [hmd] at od ⊢
      have HMD := Lib.hid hmd
      clear hmd
      refine wp_region_held (S := fun W => Row W gk 22 .u8 K1) (by kernel_rfl) ?_
      change wpAnyH _ _ _ _ _ _ _ _ wd.drew
      have k0 : Row wd.drew gk 22 .u8 K1 := krd.drewN 1
      have e0 : Row wd.drew gr 41 .u8 (List.replicate 16 0) := erd.drewN 1
      have b0 : Below w.heap.size w wd.drew := bd.drew
      have o0 : Mem.Own wd.drew wr.heap.size 5 .u8 (.slice Ad md cd) (P1 ++ P2 ++ digits (n : Int) 8) := od.drewN 1
      have s0 : wr.heap.size ≤ wd.drew.heap.size := sd
      clear krd erd bd od sd
      refine Held.take (v := .agg (arr .u8 K1)) 0 (some 35) rfl rfl (by kernel_rfl) (by kernel_rfl) (by kernel_rfl) (fun _ _ _ h => h) rfl (Held.y_load_Row (zs := K1) rfl rfl Tryd.underlying22 size_32b HKL.out (fun W hW => hW)) k0 ?_
      simp only [Act.put, List.setIfInBounds_toArray, List.set_cons_zero, List.set_cons_succ]
      refine Held.take (v := .slice Ad md cd) 1 (some 36) rfl rfl (by kernel_rfl) (by kernel_rfl) (by kernel_rfl) (fun _ _ _ h => h) rfl (Held.y_move rfl rfl) k0 ?_
      simp only [Act.put, List.setIfInBounds_toArray, List.set_cons_zero, List.set_cons_succ]
      refine Held.take (v := .slice A2 n2 c2) 2 (some 37) rfl rfl (by kernel_rfl) (by kernel_rfl) (by kernel_rfl) (fun _ _ _ h => h) rfl (Held.y_move rfl rfl) k0 ?_
      simp only [Act.put, List.setIfInBounds_toArray, List.set_cons_zero, List.set_cons_succ]
      refine Held.take (v := .int .i64 (n2 : Int)) 3 (some 38) rfl rfl (by kernel_rfl) (by kernel_rfl) (by kernel_rfl) (fun _ _ _ h => h) rfl (Held.y_len rfl rfl (by kernel_rfl)) k0 ?_
      simp only [Act.put, List.setIfInBounds_toArray, List.set_cons_zero, List.set_cons_succ]
      refine Held.one 4 (by kernel_rfl) ?_
      refine Held.op_call 4 (some 39) 34 #[.int .i64 (n2 : Int)] rfl rfl rfl rfl (enters_of Tryd.func34 (by kernel_rfl) rfl) (by simp [Act.eval]) (eight_any (n2 : Int) wd.drew (by omega) (by omega)) ?_
      rintro e we ⟨Ae, ce, rfl, oe, be⟩
      have ie : Ints we .u8 we.heap.size Ae 8 (digits (n2 : Int) 8) := by
        obtain ⟨_, _, ev, _, _, i⟩ := oe.form
        rw [digits_length] at ev i
        cases ev
        exact i
      have k1 := k0.below be k0.lt
      have e1 := e0.below be e0.lt
      have b1 := b0.trans (be.mono b0.size)
      have o1 := o0.below be
      have s1 : wr.heap.size ≤ we.heap.size := Nat.le_trans s0 be.size
      clear k0 e0 b0 o0 s0 be oe
      refine ⟨_, rfl, k1, ?_⟩
      simp only [Act.put, List.setIfInBounds_toArray, List.set_cons_zero, List.set_cons_succ]
      refine Held.one 5 (by kernel_rfl) ?_
      refine Held.op_append_ints 5 (some 40) 24 rfl rfl rfl rfl wr.heap.size 5 .u8 1 Tryd.underlying24 info_u8 (.slice Ad md cd) (P1 ++ P2 ++ digits (n : Int) 8) rfl o1 we.heap.size Ae 8 ce (digits (n2 : Int) 8) rfl ie (by rw [HMD.out]; omega) (by omega) s1 ?_
      intro Af mf cf wf of gf' _ _ HMF jf
      have k2 := k1.grown gf' (fun e => by have := (o1.2.lt _ e.symm).1; omega)
      have e2 := e1.grown gf' (fun e => by have := (o1.2.lt _ e.symm).1; omega)
      have b2 := b1.grown gf' b1.size (fun r e => by have := (o1.2.lt r e).1; omega)
      have hmf : mf ≤ 549755813936 := by rw [← HMF.out, List.length_append, HMD.out, digits_length]; omega
      clear k1 e1 b1 s1 ie gf' of o1
      rw [← HTX.out] at jf HMF
      refine ⟨k2, ?_⟩
      simp only [Act.put, List.setIfInBounds_toArray, List.set_cons_zero, List.set_cons_succ]
      refine Held.one 6 (by kernel_rfl) ?_
      refine Held.op_call 6 (some 41) 35 #[.agg (arr .u8 K1), .slice Af mf cf] rfl rfl rfl rfl (enters_of Tryd.func35 (by kernel_rfl) rfl) (by simp [Act.eval]) (rtag_any K1 wf.heap.size Af mf cf (text xs ys) wf HKL.out HKB.out jf (Cha.bs_of_ints jf) (Nat.le_refl _) (by omega)) ?_
      rintro e wg ⟨rfl, bg⟩
      have k3 := k2.below bg k2.lt
      have e3 := e2.below bg e2.lt
      have b3 := b2.trans (bg.mono b2.size)
      clear k2 e2 b2 bg
      refine ⟨_, rfl, k3, ?_⟩
      simp only [Act.put, List.setIfInBounds_toArray, List.set_cons_zero, List.set_cons_succ]
      refine Held.one 7 (by kernel_rfl) ?_
      have HPL := Lib.hid (poly_length K1 (text xs ys))
      refine Held.op_store_Row 7 none 41 gr 41 .u8 _ (poly K1 (text xs ys)) rfl rfl rfl rfl rfl rfl e3 16 info_16b HPL.out (by simp) ?_
      have e4 := e3.setRow (bs_wf (poly_bytes K1 (text xs ys)))
      have g4 := grown_setRow wg gr (arr .u8 (poly K1 (text xs ys)))
      have k4 := k3.grown g4 (by intro e; injection e with e; omega)
      have b4 := b3.grown g4 b3.size (fun r e => by cases e; omega)
      generalize wg.setRow gr (arr .u8 (poly K1 (text xs ys))) = wh at *
      clear e3 k3 b3 g4
      refine ⟨k4, ?_⟩
      simp only [Act.put]
      refine wpAnyH_done (by kernel_rfl) ?_ _
      go_wp2_with fail
      refine bodyPost_ret (results_Row rfl _ _ gr _ _ _ rfl e4 16 5 Tryd.underlying41 info_16b HPL.out) rfl ?_
      exact ⟨by rw [aeTag, HK1.out], b4⟩
end Go.Proofs.YtebcejncjljmhaaDoor.Ae
namespace Go.Proofs.YtebcejncjljmhaaDoor.Mem
open Go.RowKit
set_option linter.unusedVariables false

/-- an address without a spot, if there is room behind it -/
def Flat (A : Option Addr) (cap : Nat) : Prop := cap = 0 ∨ A = none ∨ ∃ b off, A = some ⟨b, off, none⟩
theorem Flat.head (b off cap : Nat) : Flat (some ⟨b, off, none⟩) cap := .inr (.inr ⟨b, off, rfl⟩)

section
variable {P : Program} {t e : TypeId} {A : Option Addr} {n cap : Nat}
theorem run_front (ht : P.underlying t = some (.slice e)) (hs : (P.info? e).map (·.size) = some 1) (hf : Flat A cap) {h : Nat} (hh : h ≤ cap) (w : World) :
    (Instr.sliceAt t (.slice A n cap) none (some (.int .i64 (h : Int))) none).run P w = .ok (.slice A h cap) w := by
  have he : P.elem t = e := by simp [Program.elem, ht]
  have ht' : P.underlying t = some (.slice (P.elem t)) := by rw [he]; exact ht
  obtain ⟨inf, hi, h1⟩ := Option.map_eq_some_iff.1 hs
  rw [run_sliceAt_slice w t _ _ _ _ ht', run_slice_h w t A n cap ht' .i64 _ (by omega) (by omega), he]
  have hz : (sizeOf e).run P w = .ok 1 w := by simp [sizeOf, typeInfo, hi, h1]
  rw [hz]
  simp only [Result.andThen, sliced, Nat.mul_one, Nat.sub_zero, Int.toNat_natCast]
  congr 2
  split
  · rfl
  · rcases hf with h0 | rfl | ⟨b, off, rfl⟩
    · exact absurd h0 ‹_›
    · rfl
    · simp [Addr.add]
theorem run_back (ht : P.underlying t = some (.slice e)) (hs : (P.info? e).map (·.size) = some 1) (hf : Flat A cap) (hc : n ≤ cap) {l : Nat} (hl : l ≤ n) {wi : World} {k : IntKind} {B : Nat} {zs : List Int} (h : Ints wi k B A n zs) :
    ∃ A', (∀ w, (Instr.sliceAt t (.slice A n cap) (some (.int .i64 (l : Int))) none none).run P w = .ok (.slice A' (n - l) (cap - l)) w) ∧ Flat A' (cap - l) ∧ Ints wi k B A' (n - l) (zs.drop l) := by
  have he : P.elem t = e := by simp [Program.elem, ht]
  have ht' : P.underlying t = some (.slice (P.elem t)) := by rw [he]; exact ht
  obtain ⟨inf, hi, h1⟩ := Option.map_eq_some_iff.1 hs
  refine ⟨if cap = l then A else A.map (·.add l), fun w => ?_, ?_, ?_⟩
  · rw [run_sliceAt_slice w t _ _ _ _ ht', run_slice_l w t A n cap ht' .i64 _ (by omega) (by omega), he]
    have hz : (sizeOf e).run P w = .ok 1 w := by simp [sizeOf, typeInfo, hi, h1]
    rw [hz]
    simp only [Result.andThen, sliced, Nat.mul_one, Int.toNat_natCast]
  · by_cases q : cap = l
    · exact .inl (by omega)
    · rw [if_neg q]
      rcases hf with h0 | rfl | ⟨b, off, rfl⟩
      · omega
      · exact .inr (.inl rfl)
      · exact .inr (.inr ⟨b, off + l, by simp [Addr.add]⟩)
  · refine ⟨by rw [List.length_drop, h.1], fun z hz => h.2.1 z (List.mem_of_mem_drop hz), fun h0 => ?_⟩
    obtain ⟨b, off, rfl, hb, hcell⟩ := h.2.2 (by omega)
    rw [if_neg (by omega)]
    refine ⟨b, off + l, by simp [Addr.add], hb, fun i hi => ?_⟩
    have := hcell (l + i) (by omega)
    rw [← Nat.add_assoc] at this
    rw [this]
    simp [List.getD_eq_getElem?_getD, List.getElem?_drop]
end
theorem Ints.front {w : World} {k : IntKind} {B n h : Nat} {A : Option Addr} {zs : List Int} (hi : Ints w k B A n zs) (hh : h ≤ n) : Ints w k B A h (zs.take h) := by
  refine ⟨by rw [List.length_take, hi.1]; omega, fun z hz => hi.2.1 z (List.mem_of_mem_take hz), fun h0 => ?_⟩
  obtain ⟨b, off, rfl, hb, hc⟩ := hi.2.2 (by omega)
  refine ⟨b, off, rfl, hb, fun i hi' => ?_⟩
  rw [hc i (by omega)]
  simp [List.getD_eq_getElem?_getD, hi']
theorem Own.flat {w : World} {base : Nat} {t : TypeId} {k : IntKind} {A : Option Addr} {n c : Nat} {zs : List Int} (h : Own w base t k (.slice A n c) zs) : Flat A c := by
  rcases h.2.2 with ⟨hv, _⟩ | ⟨g, cap, cur, hv, _⟩
  · injection hv with e1; exact .inr (.inl e1)
  · injection hv with e1; exact .inr (.inr ⟨g, 0, e1⟩)
/-- what the frame of a proof says of a slice that came in, as 'Flat' -/
theorem flat_of_row {kd : IntKind} {w : World} {a : Option Addr} {len cap : Nat} {zs : List Int}
    (h : (a = none ∧ len = 0 ∧ cap = 0 ∧ zs = []) ∨
      ∃ x, a = some x ∧ len ≤ cap ∧ cap ≤ maxLen ∧ zs.length = cap ∧ (∀ i, i < zs.length → w.cell? (x.add i) = some (.int kd (zs.getD i 0))) ∧ ∀ n ∈ zs, (Lit.int kd n).wf = true) : Flat a cap := by
  rcases h with ⟨rfl, rfl, rfl, rfl⟩ | ⟨x, rfl, hl, hm, hz, hc, hw⟩
  · exact .inl rfl
  · rcases Nat.eq_zero_or_pos cap with h0 | h0
    · exact .inl h0
    · obtain ⟨b, off, spot⟩ := x
      have h0 := hc 0 (by omega)
      have hspot : spot = none := by simpa [Addr.add] using World.cell?_spot h0
      subst hspot
      exact .inr (.inr ⟨b, off, rfl⟩)
end Go.Proofs.YtebcejncjljmhaaDoor.Mem
namespace Go.Proofs.YtebcejncjljmhaaDoor.Ae
open Go.RowKit Go.Shelf Go.Proofs.YtebcejncjljmhaaDoor.Mem Go.Proofs.YtebcejncjljmhaaDoor.Help Go.Proofs.YtebcejncjljmhaaDoor.Sum Go.Proofs.YtebcejncjljmhaaDoor.Po Go.Proofs.YtebcejncjljmhaaDoor
set_option linter.unusedVariables false
attribute [local irreducible] wpList wpListIn

set_option maxRecDepth 100000 in
set_option maxHeartbeats 4000000 in
theorem rseal_bad (key nonce : List Int) (A : Option Addr) (n c : Nat) (A2 : Option Addr) (n2 c2 : Nat) (w : World) (hkb : Bs key) (hnb : Bs nonce) (hbad : 65536 < n ∨ 65536 < n2) :
    Calls Tryd.prog 13 #[.agg (arr .u8 key), .agg (arr .u8 nonce), .slice A n c, .slice A2 n2 c2] w fun e w' => e = .returned (.tuple #[.slice none 0 0, .int .i64 5]) ∧ Below w.heap.size w w' := by
  by_cases h1 : 65536 < n
  · have h1' : (65536 : Int) < (n : Int) := by omega
    go_enter Tryd.func13, Tryd.ntmps13
    go_wp2_with (first
      | (refine wpList_box_Row (w := w) rfl 22 _ rfl .u8 key rfl (bs_wf hkb) ?_; intro w1 r1 g1 z1)
      | (refine wpList_box_Row (w := w1) rfl 23 _ rfl .u8 nonce rfl (bs_wf hnb) ?_; intro w2 r2 g2 z2))
    have b2 : Below w.heap.size w w2 := ((Below.refl _ w).grown g1 (Nat.le_refl _) (by simp)).grown g2 g1.size (by simp)
    go_ret2
    exact ⟨rfl, b2⟩
  · have h2 : 65536 < n2 := by omega
    have h1' : ¬ (65536 : Int) < (n : Int) := by omega
    have h2' : (65536 : Int) < (n2 : Int) := by omega
    go_enter Tryd.func13, Tryd.ntmps13
    go_wp2_with (first
      | (refine wpList_box_Row (w := w) rfl 22 _ rfl .u8 key rfl (bs_wf hkb) ?_; intro w1 r1 g1 z1)
      | (refine wpList_box_Row (w := w1) rfl 23 _ rfl .u8 nonce rfl (bs_wf hnb) ?_; intro w2 r2 g2 z2))
    have b2 : Below w.heap.size w w2 := ((Below.refl _ w).grown g1 (Nat.le_refl _) (by simp)).grown g2 g1.size (by simp)
    go_ret2
    exact ⟨rfl, b2⟩

set_option maxRecDepth 100000 in
set_option maxHeartbeats 4000000 in
theorem rseal_any (key nonce : List Int) (B : Nat) (A : Option Addr) (n c : Nat) (xs : List Int) (B2 : Nat) (A2 : Option Addr) (n2 c2 : Nat) (ys : List Int) (w : World) (hk : key.length = 32) (hkb : Bs key) (hnl : nonce.length = 12) (hnb : Bs nonce)
    (h : Ints w .u8 B A n xs) (hB : B ≤ w.heap.size) (hn : n ≤ 65536) (h2 : Ints w .u8 B2 A2 n2 ys) (hB2 : B2 ≤ w.heap.size) (hn2 : n2 ≤ 65536) :
    Calls Tryd.prog 13 #[.agg (arr .u8 key), .agg (arr .u8 nonce), .slice A n c, .slice A2 n2 c2] w fun e w' => ∃ A' m c', e = .returned (.tuple #[.slice A' m c', .int .i64 0]) ∧ Hid ((sealed key nonce xs ys).length = m) ∧ Mem.Own w' w.heap.size 5 .u8 (.slice A' m c') (sealed key nonce xs ys) ∧ Below w.heap.size w w' := by
  have h1' : ¬ (65536 : Int) < (n : Int) := by omega
  have h2' : ¬ (65536 : Int) < (n2 : Int) := by omega
  have HK := Lib.hid hk
  have HN := Lib.hid hnl
  have HY := Lib.hid h2.1
  clear hk hnl
  go_enter Tryd.func13, Tryd.ntmps13
  go_wp2_with (first
    | (refine wpList_box_Row (w := w) rfl 22 _ rfl .u8 key rfl (bs_wf hkb) ?_; intro w1 r1 g1 z1)
    | (refine wpList_box_Row (w := w1) rfl 23 _ rfl .u8 nonce rfl (bs_wf hnb) ?_; intro w2 r2 g2 z2; have r12 := r1.grown g2 (by simp))
    | (refine wpList_load_Row (w := w2) rfl 22 _ rfl w.heap.size rfl 22 .u8 _ r12 32 5 Tryd.underlying22 size_32b HK.out ?_)
    | (refine wpList_load_Row (w := w2) rfl 23 _ rfl w1.heap.size rfl 23 .u8 _ r2 12 5 Tryd.underlying23 size_12b HN.out ?_))
  obtain ⟨gn, hgn⟩ : ∃ g, w1.heap.size = g := ⟨_, rfl⟩
  have hg0 : w.heap.size < gn := by have := r1.lt; omega
  have b2 : Below w.heap.size w w2 := ((Below.refl _ w).grown g1 (Nat.le_refl _) (by simp)).grown g2 g1.size (by simp)
  rw [hgn] at r2 ⊢
  have l2 := r2.lt
  clear hgn r1 g1 g2 z1 z2 w1
  refine (Cha.rxor_any key nonce 1 B2 A2 n2 c2 ys w2 (h2.below (b2.mono hB2)) (Nat.le_trans hB2 b2.size) (by omega) HK.out hkb HN.out hnb ⟨by omega, by omega⟩).mono ?_
  rintro e w3 ⟨A3, c3, rfl, hc3, o3, hb3⟩
  have k3 := r12.below hb3 r12.lt
  have n3 := r2.below hb3 r2.lt
  have b3 := b2.trans (hb3.mono b2.size)
  have s3 := hb3.size
  have HXL := Lib.hid (show (Cc.xors key nonce 1 ys).length = n2 by rw [Cc.xors_length, HY.out])
  have hss : sealed key nonce xs ys = Cc.xors key nonce 1 ys ++ aeTag key nonce xs (Cc.xors key nonce 1 ys) := rfl
  have HSS := Lib.hid hss
  clear hss r12 r2 b2 hb3
  obtain ⟨zs, hzs⟩ : ∃ zs, Cc.xors key nonce 1 ys = zs := ⟨_, rfl⟩
  rw [hzs] at o3 HXL HSS
  clear hzs
  have i3 : Ints w3 .u8 w3.heap.size A3 n2 zs := by
    obtain ⟨_, _, ev, _, _, i⟩ := o3.form
    rw [HXL.out] at ev i
    cases ev
    exact i
  go_wp2_with (first
    | (refine wpList_load_Row (w := w3) rfl 22 _ rfl w.heap.size rfl 22 .u8 _ k3 32 5 Tryd.underlying22 size_32b HK.out ?_)
    | (refine wpList_load_Row (w := w3) rfl 23 _ rfl gn rfl 23 .u8 _ n3 12 5 Tryd.underlying23 size_12b HN.out ?_))
  refine (rtag_ae key nonce B A n c xs w3.heap.size A3 n2 c3 zs w3 HK.out hkb HN.out hnb (h.below (b3.mono hB)) (Nat.le_trans hB b3.size) (by omega) i3 (Nat.le_refl _) (by omega)).mono ?_
  rintro e w4 ⟨rfl, hb4⟩
  have o4 := o3.below hb4
  have b4 := b3.trans (hb4.mono b3.size)
  have s4 := Nat.le_trans s3 hb4.size
  have hw2 : w.heap.size ≤ w2.heap.size := by omega
  clear k3 n3 b3 s3 hb4 o3 i3
  have HTL := Lib.hid (aeTag_length key nonce xs zs)
  have HTB := Lib.hid (aeTag_bytes key nonce xs zs)
  obtain ⟨T, hT⟩ : ∃ T, aeTag key nonce xs zs = T := ⟨_, rfl⟩
  rw [hT] at HTL HTB HSS ⊢
  clear hT
  go_wp2_with (first
    | (refine wpList_alloc_Row (w := w4) rfl 41 rfl .u8 16 zero_16b ?_; intro w5 r5 g5 z5; have o5 := o4.kept g5 (by cases (Value.slice A3 n2 c3).ownBlock <;> simp))
    | (refine wpList_store_RowTo (w := w5) rfl 41 _ _ rfl w4.heap.size rfl 41 .u8 _ T rfl r5 16 info_16b HTL.out (by simp) (bs_wf HTB.out) ?_; intro w6 r6 g6 z6; have hsl : (Instr.sliceAt 41 (.pointer (some ⟨w4.heap.size, 0, none⟩)) none none none).run Tryd.prog w6 = .ok (.slice (some ⟨w4.heap.size, 0, none⟩) 16 16) w6 := run_slice_arr_all (P := Tryd.prog) _ 5 16 _ w6 Tryd.underlying41 (by kernel_rfl) (by omega);
        have o6 := o5.kept g6 (.inr (fun e => by have := (o4.2.lt _ e).2; omega));
        have i6 : Ints w6 .u8 w6.heap.size (some ⟨w4.heap.size, 0, none⟩) 16 T := by
          have := r6.ints (n := 16) (by rw [HTL.out]; omega)
          rwa [List.take_of_length_le (by rw [HTL.out]; omega)] at this)
    | (at_builtin; refine wpList_append_ints w6 rfl _ _ 24 rfl w2.heap.size 5 .u8 1 Tryd.underlying24 info_u8 (.slice A3 n2 c3) zs rfl o6 w6.heap.size (some ⟨w4.heap.size, 0, none⟩) 16 16 T rfl i6 (by rw [HXL.out]; omega) (by omega) (by have := g5.size; have := g6.size; omega) ?_; intro v7 w7 o7 g7 t7))
  have s5 := g5.size
  have s6 := g6.size
  have b7 : Below w.heap.size w w7 := (((b4.grown g5 b4.size (by simp)).grown g6 (Nat.le_trans b4.size s5) (fun r e => by have := b4.size; cases e; omega))).grown g7 (Nat.le_trans b4.size (Nat.le_trans s5 s6)) (fun r e => by have := (o6.2.lt r e).1; omega)
  clear r5 g5 g6 g7 o4 o5 o6 r6 i6 hsl t7 z5 z6
  obtain ⟨A7, c7, rfl, _, _, _⟩ := o7.form
  obtain ⟨m, hm⟩ : ∃ m, (zs ++ T).length = m := ⟨_, rfl⟩
  rw [hm] at o7 ⊢
  have HM := Lib.hid hm
  clear hm
  go_wp2_with fail
  go_ret2
  rw [← HSS.out] at o7 HM
  exact ⟨A7, m, c7, rfl, HM, o7.less hw2, b7⟩
end Go.Proofs.YtebcejncjljmhaaDoor.Ae
namespace Go.Proofs.YtebcejncjljmhaaDoor.Ae
open Go.RowKit Go.Shelf Go.Proofs.YtebcejncjljmhaaDoor.Mem Go.Proofs.YtebcejncjljmhaaDoor.Help Go.Proofs.YtebcejncjljmhaaDoor.Sum Go.Proofs.YtebcejncjljmhaaDoor.Po Go.Proofs.YtebcejncjljmhaaDoor
set_option linter.unusedVariables false
attribute [local irreducible] wpList wpListIn

/-- two texts compared: unlike? -/
theorem y_nes {P : Program} {S : World → Prop} {ρ : Operand → Value} {o : Oper} {t ty : TypeId} {x y : Operand} {s s' : ByteArray} {r : Bool} (ho : o.op = .binOp .neq t x y ty) (hx : ρ x = .string s) (hy : ρ y = .string s') (ht : P.underlying t = some .string) (hr : (s.toList != s'.toList) = r) :
    ∀ w, S w → (execOp ρ o).run P w = .ok (.value (.bool r)) w := Held.y_bin ho hx hy (fun w => by simp [eqGuard]) (fun w => by subst hr; simp [binOp, Op.stringOp, bne])

set_option maxRecDepth 100000 in
set_option maxHeartbeats 4000000 in
theorem ropen_bad (key nonce : List Int) (A : Option Addr) (n c : Nat) (A2 : Option Addr) (n2 c2 : Nat) (w : World) (hkb : Bs key) (hnb : Bs nonce) (hl : n2 ≤ maxLen) (hbad : 65536 < n ∨ 65552 < n2) :
    Calls Tryd.prog 17 #[.agg (arr .u8 key), .agg (arr .u8 nonce), .slice A n c, .slice A2 n2 c2] w fun e w' => e = .returned (.tuple #[.slice none 0 0, .int .i64 5]) ∧ Below w.heap.size w w' := by
  have hl' : (n2 : Int) ≤ 9223372036854775807 := by simp only [maxLen] at hl; omega
  have hwr : IntKind.i64.wrap ((n2 : Int) - 16) = (n2 : Int) - 16 := by rw [IntKind.wrap_i64]; omega
  by_cases h1 : 65536 < n
  · have h1' : (65536 : Int) < (n : Int) := by omega
    go_enter Tryd.func17, Tryd.ntmps17
    go_wp2_with (first
      | (refine wpList_box_Row (w := w) rfl 22 _ rfl .u8 key rfl (bs_wf hkb) ?_; intro w1 r1 g1 z1)
      | (refine wpList_box_Row (w := w1) rfl 23 _ rfl .u8 nonce rfl (bs_wf hnb) ?_; intro w2 r2 g2 z2))
    have b2 : Below w.heap.size w w2 := ((Below.refl _ w).grown g1 (Nat.le_refl _) (by simp)).grown g2 g1.size (by simp)
    go_ret2
    exact ⟨rfl, b2⟩
  · have h2 : 65552 < n2 := by omega
    have h1' : ¬ (65536 : Int) < (n : Int) := by omega
    have h2' : (65536 : Int) < (n2 : Int) - 16 := by omega
    go_enter Tryd.func17, Tryd.ntmps17
    go_wp2_with (first
      | (refine wpList_box_Row (w := w) rfl 22 _ rfl .u8 key rfl (bs_wf hkb) ?_; intro w1 r1 g1 z1)
      | (refine wpList_box_Row (w := w1) rfl 23 _ rfl .u8 nonce rfl (bs_wf hnb) ?_; intro w2 r2 g2 z2))
    have b2 : Below w.heap.size w w2 := ((Below.refl _ w).grown g1 (Nat.le_refl _) (by simp)).grown g2 g1.size (by simp)
    go_ret2
    exact ⟨rfl, b2⟩

set_option maxRecDepth 100000 in
set_option maxHeartbeats 4000000 in
theorem ropen_short (key nonce : List Int) (A : Option Addr) (n c : Nat) (A2 : Option Addr) (n2 c2 : Nat) (w : World) (hkb : Bs key) (hnb : Bs nonce) (hn : n ≤ 65536) (hn2 : n2 < 16) :
    Calls Tryd.prog 17 #[.agg (arr .u8 key), .agg (arr .u8 nonce), .slice A n c, .slice A2 n2 c2] w fun e w' => e = .returned (.tuple #[.slice none 0 0, .int .i64 3]) ∧ Below w.heap.size w w' := by
  have hwr : IntKind.i64.wrap ((n2 : Int) - 16) = (n2 : Int) - 16 := by rw [IntKind.wrap_i64]; omega
  · have h1' : ¬ (65536 : Int) < (n : Int) := by omega
    have h2' : ¬ (65536 : Int) < (n2 : Int) - 16 := by omega
    have h3' : (n2 : Int) - 16 < 0 := by omega
    go_enter Tryd.func17, Tryd.ntmps17
    go_wp2_with (first
      | (refine wpList_box_Row (w := w) rfl 22 _ rfl .u8 key rfl (bs_wf hkb) ?_; intro w1 r1 g1 z1)
      | (refine wpList_box_Row (w := w1) rfl 23 _ rfl .u8 nonce rfl (bs_wf hnb) ?_; intro w2 r2 g2 z2))
    have b2 : Below w.heap.size w w2 := ((Below.refl _ w).grown g1 (Nat.le_refl _) (by simp)).grown g2 g1.size (by simp)
    go_ret2
    exact ⟨rfl, b2⟩

set_option maxRecDepth 100000 in
set_option maxHeartbeats 8000000 in
theorem ropen_any (key nonce : List Int) (B : Nat) (A : Option Addr) (n c : Nat) (xs : List Int) (B2 : Nat) (A2 : Option Addr) (n2 c2 q : Nat) (ys : List Int) (w : World) (hk : key.length = 32) (hkb : Bs key) (hnl : nonce.length = 12) (hnb : Bs nonce)
    (h : Ints w .u8 B A n xs) (hB : B ≤ w.heap.size) (hn : n ≤ 65536) (h2 : Ints w .u8 B2 A2 n2 ys) (hB2 : B2 ≤ w.heap.size) (hf : Flat A2 c2) (hc2 : n2 ≤ c2) (hq : n2 = q + 16) (hn2 : q ≤ 65536) :
    Calls Tryd.prog 17 #[.agg (arr .u8 key), .agg (arr .u8 nonce), .slice A n c, .slice A2 n2 c2] w fun e w' => Below w.heap.size w w' ∧
      ((opened key nonce xs ys = none ∧ e = .returned (.tuple #[.slice none 0 0, .int .i64 6])) ∨
        (∃ p A' c', opened key nonce xs ys = some p ∧ p.length = q ∧ e = .returned (.tuple #[.slice A' q c', .int .i64 0]) ∧ Mem.Own w' w.heap.size 5 .u8 (.slice A' q c') p)) := by
  have HOP : Hid (opened key nonce xs ys = if aeTag key nonce xs (ys.take q) = ys.drop q then some (Cc.xors key nonce 1 (ys.take q)) else none) := Lib.hid (by
    rw [opened, show ys.length - 16 = q by rw [h2.1]; omega])
  have h1' : ¬ (65536 : Int) < (n : Int) := by omega
  have h2' : ¬ (65536 : Int) < (q : Int) := by omega
  have h3' : ¬ (q : Int) < 0 := by omega
  have hsub : (n2 : Int) - 16 = (q : Int) := by omega
  have HK := Lib.hid hk
  have HN := Lib.hid hnl
  have HQ := Lib.hid hq
  have hqc : q ≤ c2 := by omega
  have hqn : q ≤ n2 := by omega
  have hfr := h2.front hqn
  have hslf := fun W : World => run_front (P := Tryd.prog) (n := n2) (cap := c2) (h := q) Tryd.underlying24 size_1b hf hqc W
  obtain ⟨A9, hslb, _, hbk⟩ := run_back (P := Tryd.prog) Tryd.underlying24 size_1b hf hc2 hqn h2
  rw [show n2 - q = 16 by omega] at hslb hbk
  have HYQ := Lib.hid (show (ys.take q).length = q from hfr.1)
  clear hk hnl hq
  go_enter Tryd.func17, Tryd.ntmps17
  go_wp2_with (first
    | (refine wpList_box_Row (w := w) rfl 22 _ rfl .u8 key rfl (bs_wf hkb) ?_; intro w1 r1 g1 z1)
    | (refine wpList_box_Row (w := w1) rfl 23 _ rfl .u8 nonce rfl (bs_wf hnb) ?_; intro w2 r2 g2 z2; have r12 := r1.grown g2 (by simp)))
  obtain ⟨gn, hgn⟩ : ∃ g, w1.heap.size = g := ⟨_, rfl⟩
  have hg0 : w.heap.size < gn := by have := r1.lt; omega
  have b2 : Below w.heap.size w w2 := ((Below.refl _ w).grown g1 (Nat.le_refl _) (by simp)).grown g2 g1.size (by simp)
  rw [hgn] at r2 ⊢
  have l2 := r2.lt
  have l1 := r12.lt
  clear hgn r1 g1 g2 z1 z2 w1
  refine wp_region_held (S := fun W => Below w2.heap.size w2 W) (by kernel_rfl) ?_
  change wpAnyH _ _ _ _ _ _ _ _ w2.drew
  have c0 := (Below.refl w2.heap.size w2).drew
  have d0 := b2.drew
  refine Held.take (v := .agg (arr .u8 key)) 0 (some 26) rfl rfl (by kernel_rfl) (by kernel_rfl) (by kernel_rfl) (fun _ _ _ h => h) rfl (Held.y_load_Row (zs := key) rfl rfl Tryd.underlying22 size_32b HK.out (fun W hW => r12.below hW r12.lt)) c0 ?_
  simp only [Act.put, List.setIfInBounds_toArray, List.set_cons_zero, List.set_cons_succ]
  refine Held.take (v := .agg (arr .u8 nonce)) 1 (some 27) rfl rfl (by kernel_rfl) (by kernel_rfl) (by kernel_rfl) (fun _ _ _ h => h) rfl (Held.y_load_Row (zs := nonce) rfl rfl Tryd.underlying23 size_12b HN.out (fun W hW => r2.below hW r2.lt)) c0 ?_
  simp only [Act.put, List.setIfInBounds_toArray, List.set_cons_zero, List.set_cons_succ]
  refine Held.take (v := .slice A n c) 2 (some 28) rfl rfl (by kernel_rfl) (by kernel_rfl) (by kernel_rfl) (fun _ _ _ h => h) rfl (Held.y_move rfl rfl) c0 ?_
  simp only [Act.put, List.setIfInBounds_toArray, List.set_cons_zero, List.set_cons_succ]
  refine Held.take (v := .slice A2 n2 c2) 3 (some 29) rfl rfl (by kernel_rfl) (by kernel_rfl) (by kernel_rfl) (fun _ _ _ h => h) rfl (Held.y_move rfl rfl) c0 ?_
  simp only [Act.put, List.setIfInBounds_toArray, List.set_cons_zero, List.set_cons_succ]
  refine Held.take (v := .int .i64 (q : Int)) 4 (some 30) rfl rfl (by kernel_rfl) (by kernel_rfl) (by kernel_rfl) (fun _ _ _ h => h) rfl (Held.y_move rfl rfl) c0 ?_
  simp only [Act.put, List.setIfInBounds_toArray, List.set_cons_zero, List.set_cons_succ]
  refine Held.take (v := .slice A2 q c2) 5 (some 31) rfl rfl (by kernel_rfl) (by kernel_rfl) (by kernel_rfl) (fun _ _ _ h => h) rfl (Held.y_slice rfl hslf) c0 ?_
  simp only [Act.put, List.setIfInBounds_toArray, List.set_cons_zero, List.set_cons_succ]
  have HTL := Lib.hid (aeTag_length key nonce xs (ys.take q))
  have HTB := Lib.hid (aeTag_bytes key nonce xs (ys.take q))
  refine Held.two 6 7 (by kernel_rfl) ?_ ?_
  · refine Held.op_call 6 (some 32) 24 #[.agg (arr .u8 key), .agg (arr .u8 nonce), .slice A n c, .slice A2 q c2] rfl rfl rfl rfl (enters_of Tryd.func24 (by kernel_rfl) rfl) (by simp [Act.eval]) (rtag_ae key nonce B A n c xs B2 A2 q c2 (ys.take q) w2.drew HK.out hkb HN.out hnb (h.below (d0.mono hB)) (Nat.le_trans hB d0.size) (by omega) (hfr.below (d0.mono hB2)) (Nat.le_trans hB2 d0.size) (by omega)) ?_
    rintro e wA ⟨rfl, hbwA⟩
    have cA := c0.trans (hbwA.mono c0.size)
    have dA := d0.trans (hbwA.mono d0.size)
    refine ⟨_, rfl, cA, ?_⟩
    simp only [Act.put, List.setIfInBounds_toArray, List.set_cons_zero, List.set_cons_succ]
    refine Held.one 7 (by kernel_rfl) ?_
    refine Held.op_alloc_Row 7 (some 11) 41 .u8 16 rfl rfl rfl rfl zero_16b ?_
    intro gt wB ra hbwB hgt
    have cB := cA.trans (hbwB.mono cA.size)
    have dB := dA.trans (hbwB.mono dA.size)
    have hgz : w2.heap.size ≤ gt := Nat.le_trans cA.size hgt.out
    refine ⟨cB, ?_⟩
    simp only [Act.put, List.setIfInBounds_toArray, List.set_cons_zero, List.set_cons_succ]
    refine Held.one 8 (by kernel_rfl) ?_
    refine Held.op_store_RowL 8 none 41 gt 41 .u8 _ (aeTag key nonce xs (ys.take q)) rfl rfl rfl rfl rfl rfl ra 16 info_16b HTL.out (by simp) (bs_wf HTB.out) ?_
    intro wz rz gz
    have cz := cB.grown gz cB.size (fun r e => by cases e; exact hgz)
    have dz := dB.grown gz dB.size (fun r e => by cases e; exact Nat.le_trans b2.size hgz)
    clear cA dA cB dB gz ra
    refine ⟨cz, ?_⟩
    simp only [Act.put]
    refine wpAnyH_done (by kernel_rfl) ?_ _
    have kz := r12.below cz r12.lt
    have nz := r2.below cz r2.lt
    have fz := hfr.below (dz.mono hB2)
    have bz := hbk.below (dz.mono hB2)
    have hz := Nat.le_trans b2.size cz.size
    clear cz hgz hgt
    obtain ⟨T, hT⟩ : ∃ T, aeTag key nonce xs (ys.take q) = T := ⟨_, rfl⟩
    rw [hT] at HTL HTB HOP rz
    clear hT
    have iz : Ints wz .u8 wz.heap.size (some ⟨gt, 0, none⟩) 16 T := by
      have := rz.ints (n := 16) (by rw [HTL.out]; omega)
      rwa [List.take_of_length_le (by rw [HTL.out]; omega)] at this
    have hsT : ∀ W, (Instr.sliceAt 41 (.pointer (some ⟨gt, 0, none⟩)) none none none).run Tryd.prog W = .ok (.slice (some ⟨gt, 0, none⟩) 16 16) W := fun W => run_slice_arr_all (P := Tryd.prog) _ 5 16 _ W Tryd.underlying41 (by kernel_rfl) (by omega)
    have hin := Lib.hid (text_inj iz.2.1 bz.2.1)
    go_wp2_with fail
    refine wp_region_held (S := fun W => Below wz.heap.size wz W) (by kernel_rfl) ?_
    change wpAnyH _ _ _ _ _ _ _ _ wz.drew
    have c1 := (Below.refl wz.heap.size wz).drew
    refine Held.take (v := .slice (some ⟨gt, 0, none⟩) 16 16) 0 (some 33) rfl rfl (by kernel_rfl) (by kernel_rfl) (by kernel_rfl) (fun _ _ _ h => h) rfl (Held.y_slice rfl hsT) c1 ?_
    simp only [Act.put, List.setIfInBounds_toArray, List.set_cons_zero, List.set_cons_succ]
    refine Held.take (v := .string (strOfNums T)) 1 (some 34) rfl rfl (by kernel_rfl) (by kernel_rfl) (by kernel_rfl) (fun _ _ _ h => h) rfl (Held.y_text rfl rfl Tryd.underlying24 Tryd.underlying5 Tryd.underlying9 (fun W hW => iz.below hW)) c1 ?_
    simp only [Act.put, List.setIfInBounds_toArray, List.set_cons_zero, List.set_cons_succ]
    refine Held.take (v := .slice A2 n2 c2) 2 (some 35) rfl rfl (by kernel_rfl) (by kernel_rfl) (by kernel_rfl) (fun _ _ _ h => h) rfl (Held.y_move rfl rfl) c1 ?_
    simp only [Act.put, List.setIfInBounds_toArray, List.set_cons_zero, List.set_cons_succ]
    refine Held.take (v := .int .i64 (q : Int)) 3 (some 36) rfl rfl (by kernel_rfl) (by kernel_rfl) (by kernel_rfl) (fun _ _ _ h => h) rfl (Held.y_move rfl rfl) c1 ?_
    simp only [Act.put, List.setIfInBounds_toArray, List.set_cons_zero, List.set_cons_succ]
    refine Held.take (v := .slice A9 16 (c2 - q)) 4 (some 37) rfl rfl (by kernel_rfl) (by kernel_rfl) (by kernel_rfl) (fun _ _ _ h => h) rfl (Held.y_slice rfl hslb) c1 ?_
    simp only [Act.put, List.setIfInBounds_toArray, List.set_cons_zero, List.set_cons_succ]
    refine Held.take (v := .string (strOfNums (ys.drop q))) 5 (some 38) rfl rfl (by kernel_rfl) (by kernel_rfl) (by kernel_rfl) (fun _ _ _ h => h) rfl (Held.y_text rfl rfl Tryd.underlying24 Tryd.underlying5 Tryd.underlying9 (fun W hW => bz.below (hW.mono (Nat.le_trans hB2 dz.size)))) c1 ?_
    simp only [Act.put, List.setIfInBounds_toArray, List.set_cons_zero, List.set_cons_succ]
    by_cases heq : T = ys.drop q
    · refine Held.take (v := .bool false) 6 (some 39) rfl rfl (by kernel_rfl) (by kernel_rfl) (by kernel_rfl) (fun _ _ _ h => h) rfl (y_nes rfl rfl rfl Tryd.underlying9 (by rw [heq]; simp)) c1 ?_
      simp only [Act.put, List.setIfInBounds_toArray, List.set_cons_zero, List.set_cons_succ]
      refine wpAnyH_done (by kernel_rfl) ?_ _
      have ho := HOP.out
      rw [if_pos heq] at ho
      have HO := Lib.hid ho
      clear ho heq hin
      go_wp2_with fail
      refine wp_region_held (S := fun W => Below wz.heap.size wz W) (by kernel_rfl) ?_
      change wpAnyH _ _ _ _ _ _ _ _ wz.drew.drew
      have y2 := c1.drew
      have d2 := dz.drew.drew
      refine Held.take (v := .agg (arr .u8 key)) 0 (some 40) rfl rfl (by kernel_rfl) (by kernel_rfl) (by kernel_rfl) (fun _ _ _ h => h) rfl (Held.y_load_Row (zs := key) rfl rfl Tryd.underlying22 size_32b HK.out (fun W hW => kz.below hW kz.lt)) y2 ?_
      simp only [Act.put, List.setIfInBounds_toArray, List.set_cons_zero, List.set_cons_succ]
      refine Held.take (v := .agg (arr .u8 nonce)) 1 (some 41) rfl rfl (by kernel_rfl) (by kernel_rfl) (by kernel_rfl) (fun _ _ _ h => h) rfl (Held.y_load_Row (zs := nonce) rfl rfl Tryd.underlying23 size_12b HN.out (fun W hW => nz.below hW nz.lt)) y2 ?_
      simp only [Act.put, List.setIfInBounds_toArray, List.set_cons_zero, List.set_cons_succ]
      refine Held.take (v := .slice A2 n2 c2) 2 (some 42) rfl rfl (by kernel_rfl) (by kernel_rfl) (by kernel_rfl) (fun _ _ _ h => h) rfl (Held.y_move rfl rfl) y2 ?_
      simp only [Act.put, List.setIfInBounds_toArray, List.set_cons_zero, List.set_cons_succ]
      refine Held.take (v := .int .i64 (q : Int)) 3 (some 43) rfl rfl (by kernel_rfl) (by kernel_rfl) (by kernel_rfl) (fun _ _ _ h => h) rfl (Held.y_move rfl rfl) y2 ?_
      simp only [Act.put, List.setIfInBounds_toArray, List.set_cons_zero, List.set_cons_succ]
      refine Held.take (v := .slice A2 q c2) 4 (some 44) rfl rfl (by kernel_rfl) (by kernel_rfl) (by kernel_rfl) (fun _ _ _ h => h) rfl (Held.y_slice rfl hslf) y2 ?_
      simp only [Act.put, List.setIfInBounds_toArray, List.set_cons_zero, List.set_cons_succ]
      refine Held.one 5 (by kernel_rfl) ?_
      refine Held.op_call 5 (some 45) 23 #[.agg (arr .u8 key), .agg (arr .u8 nonce), .int .u32 1, .slice A2 q c2] rfl rfl rfl rfl (enters_of Tryd.func23 (by kernel_rfl) rfl) (by simp [Act.eval]) (Cha.rxor_any key nonce 1 B2 A2 q c2 (ys.take q) wz.drew.drew (hfr.below (d2.mono hB2)) (Nat.le_trans hB2 d2.size) (by omega) HK.out hkb HN.out hnb ⟨by omega, by omega⟩) ?_
      rintro e wy ⟨Ay, cy, rfl, hcy, oy, hby⟩
      have c3 := y2.trans (hby.mono y2.size)
      have d3 := d2.trans (hby.mono d2.size)
      refine ⟨_, rfl, c3, ?_⟩
      simp only [Act.put, List.setIfInBounds_toArray, List.set_cons_zero, List.set_cons_succ]
      refine Held.take (v := .slice Ay q cy) 6 (some 8) rfl rfl (by kernel_rfl) (by kernel_rfl) (by kernel_rfl) (fun _ _ _ h => h) rfl (Held.y_assign rfl rfl) c3 ?_
      simp only [Act.put, List.setIfInBounds_toArray, List.set_cons_zero, List.set_cons_succ]
      refine Held.take (v := .int .i64 0) 7 (some 9) rfl rfl (by kernel_rfl) (by kernel_rfl) (by kernel_rfl) (fun _ _ _ h => h) rfl (Held.y_assign rfl rfl) c3 ?_
      simp only [Act.put, List.setIfInBounds_toArray, List.set_cons_zero, List.set_cons_succ]
      refine wpAnyH_done (by kernel_rfl) ?_ _
      go_wp2_with fail
      go_ret2
      exact ⟨d3, .inr ⟨_, Ay, cy, HO.out, by rw [Cc.xors_length, HYQ.out], rfl, oy.less d2.size⟩⟩
    · refine Held.take (v := .bool true) 6 (some 39) rfl rfl (by kernel_rfl) (by kernel_rfl) (by kernel_rfl) (fun _ _ _ h => h) rfl (y_nes rfl rfl rfl Tryd.underlying9 (by simpa using fun e => heq (hin.out.1 e))) c1 ?_
      simp only [Act.put, List.setIfInBounds_toArray, List.set_cons_zero, List.set_cons_succ]
      refine wpAnyH_done (by kernel_rfl) ?_ _
      have ho := HOP.out
      rw [if_neg heq] at ho
      have HO := Lib.hid ho
      clear ho heq hin
      go_wp2_with fail
      go_ret2
      exact ⟨dz.drew, .inl ⟨HO.out, rfl⟩⟩
  · refine Held.op_alloc_Row 7 (some 11) 41 .u8 16 rfl rfl rfl rfl zero_16b ?_
    intro gt wA ra hbwA hgt
    have cA := c0.trans (hbwA.mono c0.size)
    have dA := d0.trans (hbwA.mono d0.size)
    have hgz : w2.heap.size ≤ gt := Nat.le_trans c0.size hgt.out
    refine ⟨cA, ?_⟩
    simp only [Act.put, List.setIfInBounds_toArray, List.set_cons_zero, List.set_cons_succ]
    refine Held.one 6 (by kernel_rfl) ?_
    refine Held.op_call 6 (some 32) 24 #[.agg (arr .u8 key), .agg (arr .u8 nonce), .slice A n c, .slice A2 q c2] rfl rfl rfl rfl (enters_of Tryd.func24 (by kernel_rfl) rfl) (by simp [Act.eval]) (rtag_ae key nonce B A n c xs B2 A2 q c2 (ys.take q) wA HK.out hkb HN.out hnb (h.below (dA.mono hB)) (Nat.le_trans hB dA.size) (by omega) (hfr.below (dA.mono hB2)) (Nat.le_trans hB2 dA.size) (by omega)) ?_
    rintro e wB ⟨rfl, hbwB⟩
    have cB := cA.trans (hbwB.mono cA.size)
    have dB := dA.trans (hbwB.mono dA.size)
    have ra := ra.below hbwB ra.lt
    refine ⟨_, rfl, cB, ?_⟩
    simp only [Act.put, List.setIfInBounds_toArray, List.set_cons_zero, List.set_cons_succ]
    refine Held.one 8 (by kernel_rfl) ?_
    refine Held.op_store_RowL 8 none 41 gt 41 .u8 _ (aeTag key nonce xs (ys.take q)) rfl rfl rfl rfl rfl rfl ra 16 info_16b HTL.out (by simp) (bs_wf HTB.out) ?_
    intro wz rz gz
    have cz := cB.grown gz cB.size (fun r e => by cases e; exact hgz)
    have dz := dB.grown gz dB.size (fun r e => by cases e; exact Nat.le_trans b2.size hgz)
    clear cA dA cB dB gz ra
    refine ⟨cz, ?_⟩
    simp only [Act.put]
    refine wpAnyH_done (by kernel_rfl) ?_ _
    have kz := r12.below cz r12.lt
    have nz := r2.below cz r2.lt
    have fz := hfr.below (dz.mono hB2)
    have bz := hbk.below (dz.mono hB2)
    have hz := Nat.le_trans b2.size cz.size
    clear cz hgz hgt
    obtain ⟨T, hT⟩ : ∃ T, aeTag key nonce xs (ys.take q) = T := ⟨_, rfl⟩
    rw [hT] at HTL HTB HOP rz
    clear hT
    have iz : Ints wz .u8 wz.heap.size (some ⟨gt, 0, none⟩) 16 T := by
      have := rz.ints (n := 16) (by rw [HTL.out]; omega)
      rwa [List.take_of_length_le (by rw [HTL.out]; omega)] at this
    have hsT : ∀ W, (Instr.sliceAt 41 (.pointer (some ⟨gt, 0, none⟩)) none none none).run Tryd.prog W = .ok (.slice (some ⟨gt, 0, none⟩) 16 16) W := fun W => run_slice_arr_all (P := Tryd.prog) _ 5 16 _ W Tryd.underlying41 (by kernel_rfl) (by omega)
    have hin := Lib.hid (text_inj iz.2.1 bz.2.1)
    go_wp2_with fail
    refine wp_region_held (S := fun W => Below wz.heap.size wz W) (by kernel_rfl) ?_
    change wpAnyH _ _ _ _ _ _ _ _ wz.drew
    have c1 := (Below.refl wz.heap.size wz).drew
    refine Held.take (v := .slice (some ⟨gt, 0, none⟩) 16 16) 0 (some 33) rfl rfl (by kernel_rfl) (by kernel_rfl) (by kernel_rfl) (fun _ _ _ h => h) rfl (Held.y_slice rfl hsT) c1 ?_
    simp only [Act.put, List.setIfInBounds_toArray, List.set_cons_zero, List.set_cons_succ]
    refine Held.take (v := .string (strOfNums T)) 1 (some 34) rfl rfl (by kernel_rfl) (by kernel_rfl) (by kernel_rfl) (fun _ _ _ h => h) rfl (Held.y_text rfl rfl Tryd.underlying24 Tryd.underlying5 Tryd.underlying9 (fun W hW => iz.below hW)) c1 ?_
    simp only [Act.put, List.setIfInBounds_toArray, List.set_cons_zero, List.set_cons_succ]
    refine Held.take (v := .slice A2 n2 c2) 2 (some 35) rfl rfl (by kernel_rfl) (by kernel_rfl) (by kernel_rfl) (fun _ _ _ h => h) rfl (Held.y_move rfl rfl) c1 ?_
    simp only [Act.put, List.setIfInBounds_toArray, List.set_cons_zero, List.set_cons_succ]
    refine Held.take (v := .int .i64 (q : Int)) 3 (some 36) rfl rfl (by kernel_rfl) (by kernel_rfl) (by kernel_rfl) (fun _ _ _ h => h) rfl (Held.y_move rfl rfl) c1 ?_
    simp only [Act.put, List.setIfInBounds_toArray, List.set_cons_zero, List.set_cons_succ]
    refine Held.take (v := .slice A9 16 (c2 - q)) 4 (some 37) rfl rfl (by kernel_rfl) (by kernel_rfl) (by kernel_rfl) (fun _ _ _ h => h) rfl (Held.y_slice rfl hslb) c1 ?_
    simp only [Act.put, List.setIfInBounds_toArray, List.set_cons_zero, List.set_cons_succ]
    refine Held.take (v := .string (strOfNums (ys.drop q))) 5 (some 38) rfl rfl (by kernel_rfl) (by kernel_rfl) (by kernel_rfl) (fun _ _ _ h => h) rfl (Held.y_text rfl rfl Tryd.underlying24 Tryd.underlying5 Tryd.underlying9 (fun W hW => bz.below (hW.mono (Nat.le_trans hB2 dz.size)))) c1 ?_
    simp only [Act.put, List.setIfInBounds_toArray, List.set_cons_zero, List.set_cons_succ]
    by_cases heq : T = ys.drop q
    · refine Held.take (v := .bool false) 6 (some 39) rfl rfl (by kernel_rfl) (by kernel_rfl) (by kernel_rfl) (fun _ _ _ h => h) rfl (y_nes rfl rfl rfl Tryd.underlying9 (by rw [heq]; simp)) c1 ?_
      simp only [Act.put, List.setIfInBounds_toArray, List.set_cons_zero, List.set_cons_succ]
      refine wpAnyH_done (by kernel_rfl) ?_ _
      have ho := HOP.out
      rw [if_pos heq] at ho
      have HO := Lib.hid ho
      clear ho heq hin
      go_wp2_with fail
      refine wp_region_held (S := fun W => Below wz.heap.size wz W) (by kernel_rfl) ?_
      change wpAnyH _ _ _ _ _ _ _ _ wz.drew.drew
      have y2 := c1.drew
      have d2 := dz.drew.drew
      refine Held.take (v := .agg (arr .u8 key)) 0 (some 40) rfl rfl (by kernel_rfl) (by kernel_rfl) (by kernel_rfl) (fun _ _ _ h => h) rfl (Held.y_load_Row (zs := key) rfl rfl Tryd.underlying22 size_32b HK.out (fun W hW => kz.below hW kz.lt)) y2 ?_
      simp only [Act.put, List.setIfInBounds_toArray, List.set_cons_zero, List.set_cons_succ]
      refine Held.take (v := .agg (arr .u8 nonce)) 1 (some 41) rfl rfl (by kernel_rfl) (by kernel_rfl) (by kernel_rfl) (fun _ _ _ h => h) rfl (Held.y_load_Row (zs := nonce) rfl rfl Tryd.underlying23 size_12b HN.out (fun W hW => nz.below hW nz.lt)) y2 ?_
      simp only [Act.put, List.setIfInBounds_toArray, List.set_cons_zero, List.set_cons_succ]
      refine Held.take (v := .slice A2 n2 c2) 2 (some 42) rfl rfl (by kernel_rfl) (by kernel_rfl) (by kernel_rfl) (fun _ _ _ h => h) rfl (Held.y_move rfl rfl) y2 ?_
      simp only [Act.put, List.setIfInBounds_toArray, List.set_cons_zero, List.set_cons_succ]
      refine Held.take (v := .int .i64 (q : Int)) 3 (some 43) rfl rfl (by kernel_rfl) (by kernel_rfl) (by kernel_rfl) (fun _ _ _ h => h) rfl (Held.y_move rfl rfl) y2 ?_
      simp only [Act.put, List.setIfInBounds_toArray, List.set_cons_zero, List.set_cons_succ]
      refine Held.take (v := .slice A2 q c2) 4 (some 44) rfl rfl (by kernel_rfl) (by kernel_rfl) (by kernel_rfl) (fun _ _ _ h => h) rfl (Held.y_slice rfl hslf) y2 ?_
      simp only [Act.put, List.setIfInBounds_toArray, List.set_cons_zero, List.set_cons_succ]
      refine Held.one 5 (by kernel_rfl) ?_
      refine Held.op_call 5 (some 45) 23 #[.agg (arr .u8 key), .agg (arr .u8 nonce), .int .u32 1, .slice A2 q c2] rfl rfl rfl rfl (enters_of Tryd.func23 (by kernel_rfl) rfl) (by simp [Act.eval]) (Cha.rxor_any key nonce 1 B2 A2 q c2 (ys.take q) wz.drew.drew (hfr.below (d2.mono hB2)) (Nat.le_trans hB2 d2.size) (by omega) HK.out hkb HN.out hnb ⟨by omega, by omega⟩) ?_
      rintro e wy ⟨Ay, cy, rfl, hcy, oy, hby⟩
      have c3 := y2.trans (hby.mono y2.size)
      have d3 := d2.trans (hby.mono d2.size)
      refine ⟨_, rfl, c3, ?_⟩
      simp only [Act.put, List.setIfInBounds_toArray, List.set_cons_zero, List.set_cons_succ]
      refine Held.take (v := .slice Ay q cy) 6 (some 8) rfl rfl (by kernel_rfl) (by kernel_rfl) (by kernel_rfl) (fun _ _ _ h => h) rfl (Held.y_assign rfl rfl) c3 ?_
      simp only [Act.put, List.setIfInBounds_toArray, List.set_cons_zero, List.set_cons_succ]
      refine Held.take (v := .int .i64 0) 7 (some 9) rfl rfl (by kernel_rfl) (by kernel_rfl) (by kernel_rfl) (fun _ _ _ h => h) rfl (Held.y_assign rfl rfl) c3 ?_
      simp only [Act.put, List.setIfInBounds_toArray, List.set_cons_zero, List.set_cons_succ]
      refine wpAnyH_done (by kernel_rfl) ?_ _
      go_wp2_with fail
      go_ret2
      exact ⟨d3, .inr ⟨_, Ay, cy, HO.out, by rw [Cc.xors_length, HYQ.out], rfl, oy.less d2.size⟩⟩
    · refine Held.take (v := .bool true) 6 (some 39) rfl rfl (by kernel_rfl) (by kernel_rfl) (by kernel_rfl) (fun _ _ _ h => h) rfl (y_nes rfl rfl rfl Tryd.underlying9 (by simpa using fun e => heq (hin.out.1 e))) c1 ?_
      simp only [Act.put, List.setIfInBounds_toArray, List.set_cons_zero, List.set_cons_succ]
      refine wpAnyH_done (by kernel_rfl) ?_ _
      have ho := HOP.out
      rw [if_neg heq] at ho
      have HO := Lib.hid ho
      clear ho heq hin
      go_wp2_with fail
      go_ret2
      exact ⟨dz.drew, .inl ⟨HO.out, rfl⟩⟩
end Go.Proofs.YtebcejncjljmhaaDoor.Ae
namespace Go.Proofs.YtebcejncjljmhaaDoor.Ae
open Go.RowKit Go.Shelf Go.Proofs.YtebcejncjljmhaaDoor.Mem Go.Proofs.YtebcejncjljmhaaDoor.Help Go.Proofs.YtebcejncjljmhaaDoor.Sum Go.Proofs.YtebcejncjljmhaaDoor.Po Go.Proofs.YtebcejncjljmhaaDoor

/-- a slice that is handed to a call -/
def Arg (w : World) (B : Nat) (A : Option Addr) (n c : Nat) (zs : List Int) : Prop := Ints w .u8 B A n zs ∧ B ≤ w.heap.size ∧ Flat A c ∧ n ≤ c ∧ c ≤ maxLen
section
variable {w w' : World} {B n c : Nat} {A : Option Addr} {zs : List Int}
theorem Arg.ints (h : Arg w B A n c zs) : Ints w .u8 B A n zs := h.1
theorem Arg.len (h : Arg w B A n c zs) : zs.length = n := h.1.1
theorem Arg.bytes (h : Arg w B A n c zs) : Bs zs := Cha.bs_of_ints h.1
theorem Arg.below (h : Arg w B A n c zs) (hb : Below B w w') : Arg w' B A n c zs := ⟨h.1.below hb, Nat.le_trans h.2.1 hb.size, h.2.2⟩
theorem Arg.more (h : Arg w B A n c zs) {B' : Nat} (hB : B ≤ B') (hB' : B' ≤ w.heap.size) : Arg w B' A n c zs := ⟨h.1.more hB, hB', h.2.2⟩
theorem Arg.nil (w : World) (B : Nat) (hB : B ≤ w.heap.size) : Arg w B none 0 0 [] := ⟨Ints.nil _ _ _ _, hB, .inl rfl, Nat.le_refl _, by simp [maxLen]⟩
theorem Arg.front (h : Arg w B A n c zs) {m : Nat} (hm : m ≤ n) : Arg w B A m c (zs.take m) := ⟨h.1.front hm, h.2.1, h.2.2.1, Nat.le_trans hm h.2.2.2.1, h.2.2.2.2⟩
end
theorem arg_of_own {w : World} {base : Nat} {A : Option Addr} {n c : Nat} {zs : List Int} (h : Mem.Own w base 5 .u8 (.slice A n c) zs) (hn : zs.length = n) : Arg w w.heap.size A n c zs := by
  have hf := h.flat
  obtain ⟨_, _, ev, h1, h2, hi⟩ := h.form
  rw [hn] at ev h1 hi
  cases ev
  exact ⟨hi, Nat.le_refl _, hf, h1, h2⟩
/-- what the frame of a proof says of a slice that came in, as 'Arg' -/
theorem arg_of_row {w : World} {a : Option Addr} {len cap : Nat} {zs : List Int}
    (h : (a = none ∧ len = 0 ∧ cap = 0 ∧ zs = []) ∨
      ∃ x, a = some x ∧ len ≤ cap ∧ cap ≤ maxLen ∧ zs.length = cap ∧ (∀ i, i < zs.length → w.cell? (x.add i) = some (.int .u8 (zs.getD i 0))) ∧ ∀ n ∈ zs, (Lit.int .u8 n).wf = true) : Arg w w.heap.size a len cap (zs.take len) :=
  ⟨(ints_of_row h).1, Nat.le_refl _, flat_of_row h, (ints_of_row h).2⟩
theorem bs_of_wf {zs : List Int} (h : ∀ z ∈ zs, (Lit.int .u8 z).wf = true) : Bs zs := fun z hz => wf_u8 (h z hz)
end Go.Proofs.YtebcejncjljmhaaDoor.Ae
namespace Go.Proofs.YtebcejncjljmhaaDoor.Ae
open Go.RowKit Go.Shelf Go.Proofs.YtebcejncjljmhaaDoor.Mem Go.Proofs.YtebcejncjljmhaaDoor.Help Go.Proofs.YtebcejncjljmhaaDoor.Sum Go.Proofs.YtebcejncjljmhaaDoor.Po Go.Proofs.YtebcejncjljmhaaDoor
set_option linter.unusedVariables false
attribute [local irreducible] wpList wpListIn

set_option maxRecDepth 100000 in
set_option maxHeartbeats 4000000 in
theorem length_any (A : Option Addr) (n c : Nat) (w : World) (hn : n ≤ 1099511627776) :
    Calls Tryd.prog 29 #[.slice A n c] w fun e w' => ∃ g, e = .returned (.slice (some ⟨g, 0, none⟩) 8 8) ∧ w.heap.size ≤ g ∧ Row w' g 5 .u8 (digits (n : Int) 8) ∧ Below w.heap.size w w' := by
  have h0 : (0 : Int) ≤ (n : Int) := by omega
  have hn56 : (n : Int) < 72057594037927936 := by omega
  have HL := Lib.hid (digits_length 8 (n : Int))
  go_enter Tryd.func29, Tryd.ntmps29
  go_wp2_with (refine wpList_make_Row w rfl _ _ 24 rfl 5 .u8 1 Tryd.underlying24 info_u8 .i64 .i64 _ _ 8 rfl rfl rfl rfl (by omega) (by omega) ?_; intro w1 r1 g1 z1)
  have b1 : Below w.heap.size w w1 := (Below.refl _ w).grown g1 (Nat.le_refl _) (by simp)
  clear g1 z1
  go_loopw [8] (fun i wr => ∃ k : Nat, k ≤ 8 ∧ i = .int .i64 k ∧ Below w.heap.size w wr ∧ Row wr w.heap.size 5 .u8 (blend (digits (n : Int) 8) (List.replicate 8 0) k)) (fun i _ => 8 - (intOf i).toNat)
  case atStart => exact ⟨0, by omega, rfl, b1, by rw [blend_zero]; exact r1⟩
  case round =>
    clear b1 r1
    obtain ⟨k, hk, rfl, hbl, kr⟩ := hrel
    have hLen : (digits (n : Int) 8).length = (List.replicate 8 (0 : Int)).length := by rw [HL.out]; simp
    by_cases hlt : k < 8
    · have hlt' : (k : Int) < 8 := by omega
      have hk0 : (0 : Int) ≤ (k : Int) := by omega
      have hset := blend_set hLen (i := k) (by simpa using hlt)
      have HB := Lib.hid (show (blend (digits (n : Int) 8) (List.replicate 8 0) k).length = 8 by rw [blend_length hLen]; simp)
      have W2 : IntKind.i64.wrap (8 * (k : Int)) = ((8 * k : Nat) : Int) := by rw [IntKind.wrap_i64]; omega
      obtain ⟨S0, S1⟩ := shifted_lt h0 hn56 k
      have HBY := Lib.hid (byte_at (n : Int) hlt)
      obtain ⟨q, hq⟩ : ∃ q, (n : Int) / 2 ^ (8 * k) = q := ⟨_, rfl⟩
      rw [hq] at S0 S1 HBY
      have HQ := Lib.hid hq
      clear hq
      have W4 : IntKind.u8.wrap q = (digits (n : Int) 8).getD k 0 := by rw [← HBY.out, IntKind.wrap_u8]
      have HWF := Lib.hid (bs_wf (digits_bytes 8 (n : Int)) _ (digit_mem (n : Int) hlt))
      obtain ⟨z, hz⟩ : ∃ z, (digits (n : Int) 8).getD k 0 = z := ⟨_, rfl⟩
      rw [hz] at W4 HWF hset
      have HSET := Lib.hid hset
      clear hset hz hLen
      go_wp2_with (first
        | (refine wpList_shr rfl 3 3 _ _ rfl .i64 .i64 (n : Int) q (8 * k) rfl (by simp [Act.eval]) (by simp [IntKind.bits]; omega) HQ.out ?_)
        | (refine wpList_store_elem (w := wr) rfl 5 _ _ rfl w.heap.size k rfl 5 .u8 _ z rfl kr (by rw [HB.out]; exact hlt) info_u8 HWF.out ?_; intro w2 q2 g2 z2; rw [HSET.out] at q2))
      go_roundw
      case rel => exact ⟨k + 1, by omega, by go_num, hbl.grown g2 hbl.size (fun r e => by cases e; omega), q2⟩
      case measure => simp [intOf]; omega
    · have hk8 : k = 8 := by omega
      subst hk8
      have hz : blend (digits (n : Int) 8) (List.replicate 8 0) 8 = digits (n : Int) 8 := blend_all (F := digits (n : Int) 8) (a := List.replicate 8 0) hLen
      rw [hz] at kr
      clear hz hLen hlt
      go_wp2_with fail
      go_ret
      exact ⟨_, rfl, Nat.le_refl _, kr, hbl⟩

theorem zero_64b : (Tryd.prog.info? 48).bind (·.zero) = some (.agg (arr .u8 (List.replicate 64 0))) := by kernel_rfl
theorem info_64b : (Tryd.prog.info? 48).map (·.size) = some 64 := by kernel_rfl
set_option maxRecDepth 100000 in
set_option maxHeartbeats 4000000 in
theorem once_any (key nonce : List Int) (w : World) (hk : key.length = 32) (hkb : Bs key) (hnl : nonce.length = 12) (hnb : Bs nonce) (hT : Sha.Tab w 1 Cc.sigma) :
    Calls Tryd.prog 31 #[.agg (arr .u8 key), .agg (arr .u8 nonce)] w fun e w' => e = .returned (.agg (arr .u8 (macKey key nonce))) ∧ Below w.heap.size w w' := by
  have HK := Lib.hid hk
  have HN := Lib.hid hnl
  have HBL := Lib.hid (Cc.block_length key 0 nonce)
  have HBW := Lib.hid (bs_wf (Cc.block_bytes key 0 nonce))
  have HML := Lib.hid (macKey_length key nonce)
  have HMW := Lib.hid (bs_wf (macKey_bytes key nonce))
  clear hk hnl
  go_enter Tryd.func31, Tryd.ntmps31
  go_wp2_with (first
    | (refine wpList_box_Row (w := w) rfl 22 _ rfl .u8 key rfl (bs_wf hkb) ?_; intro w1 r1 g1 z1)
    | (refine wpList_box_Row (w := w1) rfl 23 _ rfl .u8 nonce rfl (bs_wf hnb) ?_; intro w2 r2 g2 z2; have p2 := r1.grown g2 (by simp))
    | (refine wpList_alloc_Row (w := w2) rfl 22 rfl .u8 32 zero_32b ?_; intro w3 r3 g3 z3; have p3 := p2.grown g3 (by simp); have q3 := r2.grown g3 (by simp))
    | (refine wpList_load_Row (w := w3) rfl 22 _ rfl w.heap.size rfl 22 .u8 _ p3 32 5 Tryd.underlying22 size_32b HK.out ?_)
    | (refine wpList_load_Row (w := w3) rfl 23 _ rfl w1.heap.size rfl 23 .u8 _ q3 12 5 Tryd.underlying23 size_12b HN.out ?_))
  obtain ⟨gr, hgr⟩ : ∃ g, w2.heap.size = g := ⟨_, rfl⟩
  have s1 := g1.size
  have s2 := g2.size
  have l3 := r3.lt
  have b3 : Below w.heap.size w w3 := (((Below.refl _ w).grown g1 (Nat.le_refl _) (by simp)).grown g2 (by omega) (by simp)).grown g3 (by omega) (by simp)
  have hwr : w.heap.size ≤ gr := by omega
  rw [hgr] at r3 ⊢
  clear hgr r1 p2 p3 q3 r2 g1 g2 g3 z1 z2 z3 s1 s2
  refine (Cha.block_any key nonce 0 w3 HK.out hkb HN.out hnb (by unfold R32; omega) (hT.below b3 hT.lt)).mono ?_
  rintro e w4 ⟨rfl, hb4⟩
  have b4 := b3.trans (hb4.mono b3.size)
  have r4 := r3.below hb4 r3.lt
  clear hb4 b3 r3
  go_wp2_with (first
    | (refine wpList_alloc_Row (w := w4) rfl 48 rfl .u8 64 zero_64b ?_; intro w5 r5 g5 z5)
    | (refine wpList_store_RowTo (w := w5) rfl 48 _ _ rfl w4.heap.size rfl 48 .u8 _ (Cc.block key 0 nonce) rfl r5 64 info_64b HBL.out (by simp) HBW.out ?_; intro w6 r6 g6 z6; have hsl : ∀ W, (Instr.sliceAt 48 (.pointer (some ⟨w4.heap.size, 0, none⟩)) none (some (.int .i64 32)) none).run Tryd.prog W = .ok (.slice (some ⟨w4.heap.size, 0, none⟩) 32 64) W := fun W => Held.run_slice_arr_h (P := Tryd.prog) 48 5 64 w4.heap.size 32 W Tryd.underlying48 (by kernel_rfl) (by omega) (by omega))
    | (refine wpList_arrayAt rfl 22 _ rfl _ 32 64 32 5 rfl Tryd.underlying22 (by omega) ?_)
    | (refine wpList_load_midRow (w := w6) rfl 22 _ rfl w4.heap.size 0 rfl 48 .u8 _ r6 32 5 Tryd.underlying22 size_32b (by rw [HBL.out]; omega) ?_; have e6 := (r4.grown g5 (by simp)).grown g6 (by intro e; injection e with e; have := r4.lt; omega); rw [List.drop_zero, show (Cc.block key 0 nonce).take 32 = macKey key nonce from rfl])
    | (refine wpList_store_RowTo (w := w6) rfl 22 _ _ rfl gr rfl 22 .u8 _ (macKey key nonce) rfl e6 32 size_32b HML.out (by simp) HMW.out ?_; intro w7 r7 g7 z7))
  have s4 := b4.size
  have b7 : Below w.heap.size w w7 := ((b4.grown g5 s4 (by simp)).grown g6 (by have := g5.size; omega) (fun r e => by cases e; omega)).grown g7 (by have := g5.size; have := g6.size; omega) (fun r e => by cases e; omega)
  refine bodyPost_ret (results_Row rfl _ _ gr _ _ _ rfl r7 32 5 Tryd.underlying22 size_32b HML.out) rfl ?_
  exact ⟨rfl, b7⟩
end Go.Proofs.YtebcejncjljmhaaDoor.Ae
namespace Go.Proofs.YtebcejncjljmhaaDoor.Range
open Go.RowKit
set_option linter.unusedVariables false

/-- the iterator hands out what reads as xs, one by one, out of blocks that it lays; Kp: what a round keeps -/
def SeqGive {α : Type} (F : Fence) (n : Nat) (P : Program) (g : Nat) (lb : Array Value) (Enc : α → Nat → World → Array Value → Prop) (Kp : World → World → Prop) (xs : List α) (w : World) : Prop :=
  ∀ (l : Nat) (J : List α → World → Prop) (W : World), Below w.heap.size w W → (∀ s W1 W2, J s W1 → W1.grownBy W2 none → J s W2) →
    (∀ pre x args W0 W1, J pre W0 → W0.grownBy W1 none → Enc x W0.heap.size W1 args → (pre ++ [x]) <+: xs → YieldAt F (n - 1) P l args W1 fun e W' => e = .returned (.bool true) ∧ J (pre ++ [x]) W' ∧ Kp W1 W') →
    J [] W → CallsIn F n P g (#[.func (.yield l) #[] #[]] ++ lb) W fun e W' => (∃ v, e = .returned v) ∧ J xs W'

variable {F : Fence} {n : Nat} {P : Program}

theorem wpIn_rangeFunc_give {α : Type} {g : Operand} {ps : Array Tmp} {assign body : Code} {Q : Exit → Act → World → Prop} {a : Act} {w : World}
    (hro : F.round = none) (h1 : 1 ≤ n) {gf : Nat} {lb : Array Value} (hg : a.eval g = .func (.func gf) #[] lb) (hFg : F.fn gf) (eg : ∀ args w, (callFunc gf args).run P w = .ok (.enter gf args) w)
    {Enc : α → Nat → World → Array Value → Prop} {Kp : World → World → Prop} {xs : List α} {w0 : World} (hseq : SeqGive F (n - 1) P gf lb Enc Kp xs w0)
    (hKt : ∀ {A B C : World}, Kp A B → Kp B C → Kp A C) (hKb : ∀ (W : World) (l : Nat) (o o' : Obj), w.heap.size ≤ l → W.heap[l]? = some o → o.isCells = false → o.isWalk = false → Kp W (W.putObj l o'))
    (hb0 : Below w0.heap.size w0 w) (hps : ∀ x B W args, Enc x B W args → args.size = ps.size)
    (I : List α → World → Prop) (hI : OwnFrom w.heap.size I) (h0 : I [] w)
    (Ib : α → Act → List α → World → Prop) (hIb : ∀ x a', OwnFrom w.heap.size (Ib x a'))
    (hassign : ∀ (l : Nat) (pre : List α) (x : α) (args : Array Value) (W0 W : World) (K : Act → World → Prop), I pre W0 → W0.grownBy W none → Enc x W0.heap.size W args → (pre ++ [x]) <+: xs → w.heap.size ≤ W0.heap.size → (∀ a' W', KeepsOthers W W' → Kp W W' → Ib x a' pre W' → K a' W') →
      assign.wpIn (F.inRound l) (n - 1 - 1) P (Exit.then K (fun _ _ _ => False)) { tmps := (ps.zip args).foldl (fun t (p, v) => t.setIfInBounds p v) a.tmps, defers := [] } W)
    (hbody : ∀ (l : Nat) (pre : List α) (x : α) (a' : Act) (W : World), Ib x a' pre W → (pre ++ [x]) <+: xs → w.heap.size ≤ W.heap.size →
      body.wpIn (F.inRound l) (n - 1 - 1) P (goesOn fun W' => KeepsOthers W W' ∧ Kp W W' ∧ I (pre ++ [x]) W') a' W)
    (hdone : ∀ (D : Nat) (W : World), w.heap.size ≤ D → I xs W → W.heap[D]? = some (.deferred (some [])) → Q .normal { a with defers := { target := .collected D, args := #[] } :: a.defers } W) :
    (Code.rangeFunc g ps assign body).wpIn F n P Q a w := by
  refine wpIn_rangeFunc fun fn hfn => ?_
  rw [hro]
  -- the record of the loop, and the block of the rounds' deferred calls, behind all that lay
  let rec0 : LoopState → Loop := fun st => { state := st, pending := none, fn := fn, tmps := a.tmps, params := ps, assign := assign, body := body, defers := w.heap.size }
  let W1 : World := (w.alloc (.deferred (some []))).alloc (.loop (rec0 .ready))
  have hz1 : W1.heap.size = w.heap.size + 2 := by simp [W1]
  have hl1 : W1.heap[w.heap.size + 1]? = some (.loop (rec0 .ready)) := by
    have e := World.alloc_heap_new (w.alloc (.deferred (some []))) (.loop (rec0 .ready))
    rwa [World.size_alloc] at e
  have hd1 : W1.heap[w.heap.size]? = some (.deferred (some [])) := (Below.heap_alloc _ _ _ (by simp)).trans (World.alloc_heap_new w _)
  have hi1 : I [] W1 := hI.alloc _ (hI.alloc _ h0)
  have hb1 : Below w0.heap.size w0 W1 := hb0.trans ((((Below.refl _ w).alloc (Nat.le_refl _) _).alloc (by simp) _).mono hb0.size)
  refine ⟨w.heap.size + 1, [{ target := .collected w.heap.size, args := #[] }], W1, { target := .fn (.func gf) lb, args := #[.func (.yield (w.heap.size + 1)) #[] #[]] }, W1, gf,
    #[.func (.yield (w.heap.size + 1)) #[] #[]] ++ lb, W1, run_enterLoop_outer _ _ _ _ _, by simp only [resolve, hg]; simp [go_sem],
    fun f' hf' => by simp [Target.leads] at hf'; subst hf'; exact hFg, by simp [invoke, go_sem, eg], fun _ => h1, ?_⟩
  refine (hseq (w.heap.size + 1) (fun pre W => I pre W ∧ W.heap[w.heap.size + 1]? = some (.loop (rec0 .ready)) ∧ W.heap[w.heap.size]? = some (.deferred (some []))) W1 hb1
    (fun s A B hs hg' => ⟨hI s A B none hs.1 hg' (fun r e => by cases e), (hg'.block _ (Array.getElem?_eq_some_iff.1 hs.2.1).1 (by simp)).trans hs.2.1, (hg'.block _ (Array.getElem?_eq_some_iff.1 hs.2.2).1 (by simp)).trans hs.2.2⟩) ?_ ⟨hi1, hl1, hd1⟩).mono ?_
  · -- a round
    rintro pre x args W0 W ⟨hi, hl0, hd0⟩ hgW henc hpre
    have hlt0 : w.heap.size + 1 < W0.heap.size := (Array.getElem?_eq_some_iff.1 hl0).1
    have hl := (hgW.block _ hlt0 (by simp)).trans hl0
    have hd := (hgW.block _ (by omega) (by simp)).trans hd0
    have hlt : w.heap.size + 1 < W.heap.size := (Array.getElem?_eq_some_iff.1 hl).1
    have hy := run_yield (P := P) (args := args) hl (hps x _ _ _ henc)
    refine ⟨fn, _, assign, body, hy, roundIn_of_wpIn hfn (hassign _ pre x args W0 W _ hi hgW henc hpre (by omega) ?_)⟩
    intro a' W2 hk2 hp2 hib
    have hl2 := hk2.same _ _ hl rfl
    have hd2 := hk2.same _ _ hd rfl
    have hlt2 : w.heap.size + 1 < W2.heap.size := (Array.getElem?_eq_some_iff.1 hl2).1
    refine ⟨_, run_beginRound hl2 rfl, ?_⟩
    have hl3 : (W2.putObj (w.heap.size + 1) (.loop { rec0 .ready with state := .busy })).heap[w.heap.size + 1]? = some (.loop { rec0 .ready with state := .busy }) := World.putObj_heap_same hlt2
    have hd3 : (W2.putObj (w.heap.size + 1) (.loop { rec0 .ready with state := .busy })).heap[w.heap.size]? = some (.deferred (some [])) := (World.putObj_heap_other (by omega)).trans hd2
    have hp3 : Kp W (W2.putObj (w.heap.size + 1) (.loop { rec0 .ready with state := .busy })) := hKt hp2 (hKb _ _ _ _ (by omega) hl2 rfl rfl)
    refine wpIn_mono (hbody _ pre x a' _ ((hIb x a').putObj _ hib (by omega) hl2 rfl) hpre (by rw [World.putObj_size]; omega)) ?_
    intro e a3 W4 hp
    cases e with
    | normal =>
      obtain ⟨hk4, hp4, hi4⟩ := hp
      have hl4 := hk4.same _ _ hl3 rfl
      have hlt4 : w.heap.size + 1 < W4.heap.size := (Array.getElem?_eq_some_iff.1 hl4).1
      refine ⟨_, _, run_endRound (P := P) none hl4, rfl, ⟨hI.putObj _ hi4 (by omega) hl4 rfl, World.putObj_heap_same hlt4, (World.putObj_heap_other (by omega)).trans (hk4.same _ _ hd3 rfl)⟩, ?_⟩
      exact hKt (hKt hp3 hp4) (hKb _ _ _ _ (by omega) hl4 rfl rfl)
    | ret => exact hp.elim
    | exit id => exact hp.elim
    | goto t => exact hp.elim
    | panic ch => exact hp.elim
    | outgrown => exact hp.elim
  · -- behind the iterator
    rintro e W2 ⟨⟨v, rfl⟩, hi, hl, hd⟩
    refine ⟨none, _, run_endLoop (P := P) hl (by simp [rec0]), ?_⟩
    exact hdone _ _ (Nat.le_refl _) (hI.putObj _ hi (by omega) hl rfl) ((World.putObj_heap_other (by omega)).trans hd)
end Go.Proofs.YtebcejncjljmhaaDoor.Range
namespace Go.Proofs.YtebcejncjljmhaaDoor.Sha
open Go.RowKit Go.Proofs.YtebcejncjljmhaaDoor.Mem
set_option linter.unusedVariables false

/-- the values vs are slices that read as the texts xss -/
def Texts (w : World) (B : Nat) (vs : List Value) (xss : List (List Int)) : Prop :=
  vs.length = xss.length ∧ ∀ i, i < vs.length → ∃ A n c, vs.getD i undef = .slice A n c ∧ n ≤ c ∧ c ≤ maxLen ∧ Ints w .u8 B A n (xss.getD i [])
section
variable {w w' : World} {B B' : Nat} {vs us : List Value} {xss yss : List (List Int)}
theorem Texts.below (h : Texts w B vs xss) (hb : Below B w w') : Texts w' B vs xss := ⟨h.1, fun i hi => by obtain ⟨A, n, c, e, h1, h2, hh⟩ := h.2 i hi; exact ⟨A, n, c, e, h1, h2, hh.below hb⟩⟩
theorem Texts.more (h : Texts w B vs xss) (hB : B ≤ B') : Texts w B' vs xss := ⟨h.1, fun i hi => by obtain ⟨A, n, c, e, h1, h2, hh⟩ := h.2 i hi; exact ⟨A, n, c, e, h1, h2, hh.more hB⟩⟩
theorem Texts.keep (h : Texts w B vs xss) (hk : ∀ p : Addr, p.block < B → w'.cell? p = w.cell? p) : Texts w' B vs xss := ⟨h.1, fun i hi => by obtain ⟨A, n, c, e, h1, h2, hh⟩ := h.2 i hi; exact ⟨A, n, c, e, h1, h2, hh.keep hk⟩⟩
theorem Texts.nil (w : World) (B : Nat) : Texts w B [] [] := ⟨rfl, fun i hi => by simp at hi⟩
theorem Texts.append (h : Texts w B vs xss) (k : Texts w B us yss) : Texts w B (vs ++ us) (xss ++ yss) := by
  refine ⟨by simp [h.1, k.1], fun i hi => ?_⟩
  by_cases q : i < vs.length
  · have := h.2 i q
    simp only [List.getD_eq_getElem?_getD] at this ⊢
    rw [List.getElem?_append_left q, List.getElem?_append_left (by rw [← h.1]; exact q)]
    exact this
  · rw [List.length_append] at hi
    have := k.2 (i - vs.length) (by omega)
    simp only [List.getD_eq_getElem?_getD] at this ⊢
    rw [List.getElem?_append_right (by omega), List.getElem?_append_right (by rw [← h.1]; omega), ← h.1]
    exact this
theorem Texts.one {A : Option Addr} {n c : Nat} {xs : List Int} (h : Ints w .u8 B A n xs) (h1 : n ≤ c) (h2 : c ≤ maxLen) : Texts w B [.slice A n c] [xs] :=
  ⟨rfl, fun i hi => by
    have : i = 0 := by simpa using hi
    subst this
    exact ⟨A, n, c, rfl, h1, h2, h⟩⟩
theorem Texts.one_cell (h : Texts w B vs xss) : ∀ v ∈ vs, v.oneCell' = true := fun v hv => by
  obtain ⟨i, hi, rfl⟩ := List.mem_iff_getElem.1 hv
  obtain ⟨A, n, c, e, _⟩ := h.2 i hi
  rw [List.getD_eq_getElem?_getD, List.getElem?_eq_getElem hi] at e
  simp only [Option.getD_some] at e
  rw [e]; rfl
end

theorem flat_take (xss : List (List Int)) {k : Nat} (h : k < xss.length) : (xss.take (k + 1)).flatten.length = (xss.take k).flatten.length + (xss.getD k []).length := by
  rw [List.take_add_one, List.getElem?_eq_getElem h, List.flatten_append, List.length_append]
  simp [List.getD_eq_getElem?_getD, h]
theorem flat_le (xss : List (List Int)) (k : Nat) : (xss.take k).flatten.length ≤ xss.flatten.length := by
  have := congrArg List.length (congrArg List.flatten (List.take_append_drop k xss))
  rw [List.flatten_append, List.length_append] at this
  omega

theorem flat_get : ∀ (yss : List (List Int)) (k : Nat), k < yss.length → yss.getD k [] = (yss.flatten.drop (yss.take k).flatten.length).take (yss.getD k []).length
  | [], k, h => by simp at h
  | ys :: yss, 0, _ => by simp
  | ys :: yss, k + 1, h => by
    have := flat_get yss k (by simpa using h)
    simp only [List.getD_cons_succ, List.take_succ_cons, List.flatten_cons, List.length_append] at this ⊢
    rw [List.drop_append, List.drop_of_length_le (by omega), List.nil_append]
    have e : ys.length + (yss.take k).flatten.length - ys.length = (yss.take k).flatten.length := by omega
    rw [e]
    exact this
def lenV : Value → Nat
  | .slice _ n _ => n
  | _ => 0

end Go.Proofs.YtebcejncjljmhaaDoor.Sha
namespace Go.Proofs.YtebcejncjljmhaaDoor.Sha
open Go.RowKit Go.Proofs.YtebcejncjljmhaaDoor.Mem Go.Proofs.YtebcejncjljmhaaDoor.Sum Go.ChangeShapes Go.WideShapes
set_option linter.unusedVariables false

theorem vals_of_cells {w : World} {a : Addr} {m : Nat} (V : Nat → Value) (h1 : ∀ r, r < m → (V r).oneCell' = true) (h : ∀ r, r < m → w.cell? (a.add r) = some (V r)) :
    Vals w w.heap.size (some a) m ((List.range m).map V) := by
  refine ⟨by simp, fun v hv => ?_, fun hn => ?_⟩
  · obtain ⟨r, hr, rfl⟩ := List.mem_map.1 hv
    exact h1 r (List.mem_range.1 hr)
  · obtain ⟨b, off, spot⟩ := a
    have h0 := h 0 hn
    have hspot : spot = none := by simpa [Addr.add] using World.cell?_spot h0
    subst hspot
    have hlt : b < w.heap.size := by simpa [Addr.add] using World.block_lt_of_cell? w _ h0
    refine ⟨b, off, rfl, hlt, fun i hi => ?_⟩
    have := h i hi
    have e : (Addr.mk b off none).add i = ⟨b, off + i, none⟩ := by unfold Addr.add; split <;> simp_all
    rw [e] at this
    rw [this]
    simp [List.getD_eq_getElem?_getD, hi]

theorem open_texts {H : Type} {enc : TypeId × Value → H} {P : Program} {w : World} {base : Nat} {held : Bool} {t e q : TypeId} {A : Option Addr} {m c : Nat} {d : DataW H} {p : List MemPlace}
    (ht : P.underlying t = some (.slice e)) (he : P.underlying e = some (.slice q)) (hq : P.underlying q = some (.int .u8)) (ce : P.cellsOf e = 1) (cq : P.cellsOf q = 1)
    (h : DataW.Trod enc P w base (fun _ => true) held t (.slice A m c) d p) : ∃ vs xss, Vals w w.heap.size A m vs ∧ Texts w w.heap.size vs xss := by
  obtain ⟨fuel, hf⟩ := h
  rcases Deep.open_int_rows ht he hq ce cq hf with ⟨hcs, _⟩ | ⟨a, len, cap, A', L, C, Z, hcs, _, hl, hm, _, hx⟩
  · simp [Value.cells] at hcs
    obtain ⟨rfl, rfl, rfl⟩ := hcs
    exact ⟨[], [], Vals.nil _ _ _, Texts.nil _ _⟩
  · simp [Value.cells] at hcs
    obtain ⟨rfl, rfl, rfl⟩ := hcs
    refine ⟨(List.range m).map fun r => .slice (A' r) (L r) (C r), (List.range m).map fun r => (Z r).take (L r), vals_of_cells _ (fun _ _ => rfl) (fun r hr => (hx r (by omega)).1), by simp, fun i hi => ?_⟩
    have hi' : i < m := by simpa using hi
    obtain ⟨_, r1, r2, r3, r4, r5, r6⟩ := hx i (by omega)
    refine ⟨A' i, L i, C i, by simp [List.getD_eq_getElem?_getD, hi'], r1, r2, ?_⟩
    have e : ((List.range m).map fun r => (Z r).take (L r)).getD i [] = (Z i).take (L i) := by simp [List.getD_eq_getElem?_getD, hi']
    rw [e]
    refine (ints_of_row (cap := C i) ?_).1
    cases hA : A' i with
    | none => have := r5 hA; exact .inl ⟨rfl, by omega, this, List.eq_nil_of_length_eq_zero (by omega)⟩
    | some x => exact .inr ⟨x, rfl, r1, r2, r3, fun j hj => (r6 x hA).2 j (by omega), r4⟩

theorem Texts.bs {w : World} {B : Nat} {vs : List Value} {xss : List (List Int)} (h : Texts w B vs xss) : Bs xss.flatten := fun z hz => by
  obtain ⟨xs, hxs, hz⟩ := List.mem_flatten.1 hz
  obtain ⟨i, hi, rfl⟩ := List.mem_iff_getElem.1 hxs
  obtain ⟨A, n, c, _, _, _, hh⟩ := h.2 i (by rw [h.1]; exact hi)
  have e : xss.getD i [] = xss[i] := by simp [List.getD_eq_getElem?_getD, hi]
  rw [e] at hh
  exact wf_u8 (hh.2.1 z hz)
theorem flat_succ (xss : List (List Int)) {k : Nat} (h : k < xss.length) : (xss.take (k + 1)).flatten = (xss.take k).flatten ++ xss.getD k [] := by
  rw [List.take_add_one, List.getElem?_eq_getElem h, List.flatten_append]
  simp [List.getD_eq_getElem?_getD, h]
end Go.Proofs.YtebcejncjljmhaaDoor.Sha
namespace Go.Proofs.YtebcejncjljmhaaDoor.Mem
open Go.RowKit Go.Shelf Go.Proofs.YtebcejncjljmhaaDoor.Range
set_option linter.unusedVariables false

section
variable {F : Fence} {n : Nat} {P : Program} {ops : Array Oper} {rest : List Oper} {o : Oper} {a : Act} {w : World} {Q : Exit → Act → World → Prop}
theorem wpListIn_store_elem (hw : Region.wanted o (yielded ops a.tmps) = true) (ty : TypeId) (x y : Operand) (ho : o.op = .store ty x y) (g i : Nat) (hx : a.eval x = .pointer (some ⟨g, i, none⟩)) (t : TypeId) (k : IntKind) (zs : List Int) (z : Int) (hy : a.eval y = .int k z)
    (hr : Row w g t k zs) (hi : i < zs.length) (hsz : (P.info? ty).map (·.size) = some 1) (hz : (Lit.int k z).wf = true)
    (h : ∀ w', Row w' g t k (zs.set i z) → w.grownBy w' (some g) → Hid (w'.heap.size = w.heap.size) → wpListIn F n P ops Q rest (a.put o.dst undef) w') : wpListIn F n P ops Q (o :: rest) a w := by
  refine wpListIn_step fun K hK => ?_
  rw [if_pos hw]
  unfold Oper.wpIn
  refine ⟨fun f hf => by simp [Oper.about, ho] at hf, ?_⟩
  rw [Oper.semAt_plain F _ _ (by rw [ho]; intro c hc'; cases hc')]
  unfold execOp
  simp only [ho, hx, hy, Instr.storeAt, Instr.sureAddr, Sem.run_bind, Sem.run_pure, Result.andThen_ok, run_store_elem ty g i _ (.int k z) (hr.cell hi) (hr.frozen i) hsz rfl rfl]
  exact hK _ _ (h _ (hr.set i hz) (grown_setCell _ _ _ _) (Lib.hid (by simp [World.setCell])))
theorem wpListIn_build_Row (hw : Region.wanted o (yielded ops a.tmps) = true) (t : TypeId) (parts : Array (Nat × Operand)) (ho : o.op = .build t parts) (k : IntKind) (zs : List Int)
    (hf : P.built t (parts.map fun (i, x) => (i, a.eval x)).toList = some (arr k zs)) (h : wpListIn F n P ops Q rest (a.put o.dst (.agg (arr k zs))) w) : wpListIn F n P ops Q (o :: rest) a w := by
  refine wpListIn_step fun K hK => ?_
  rw [if_pos hw]
  unfold Oper.wpIn
  refine ⟨fun f hf => by simp [Oper.about, ho] at hf, ?_⟩
  rw [Oper.semAt_plain F _ _ (by rw [ho]; intro c hc'; cases hc')]
  unfold execOp
  simp only [ho, Sem.run_bind, run_build w t _ _ hf, Result.andThen_ok]
  exact hK _ _ h
theorem wpListIn_copy_RowTo (hw : Region.wanted o (yielded ops a.tmps) = true) (d s : Operand) (dT sT : TypeId) (ho : o.op = .call { callee := .builtin .copy, args := #[d, s], argTypes := #[dT, sT] }) (e : TypeId) (hu : P.underlying dT = some (.slice e)) (hsz : (P.info? e).map (·.size) = some 1)
    (g off dLen dCap : Nat) (A : Option Addr) (sLen sCap : Nat) (hd : a.eval d = .slice (some ⟨g, off, none⟩) dLen dCap) (hs : a.eval s = .slice A sLen sCap)
    (t : TypeId) (k : IntKind) (cur xs : List Int) (hr : Row w g t k cur) (hx : 0 < sLen → ∃ b o2, A = some ⟨b, o2, none⟩ ∧ ∀ i, i < sLen → w.cell? ⟨b, o2 + i, none⟩ = some (.int k (xs.getD i 0))) (hxl : xs.length = sLen)
    (hxw : ∀ z ∈ xs, (Lit.int k z).wf = true) (m : Nat) (hm : m = min sLen dLen) (h0 : 0 < m) (hfit : off + m ≤ cur.length)
    (h : ∀ w', Row w' g t k (cur.take off ++ (xs.take m ++ cur.drop (off + m))) → w.grownBy w' (some g) → Hid (w'.heap.size = w.heap.size) → wpListIn F n P ops Q rest (a.put o.dst (.int .i64 (m : Int))) w') : wpListIn F n P ops Q (o :: rest) a w :=
  wpListIn_copy_Row hw d s dT sT ho e hu hsz g off dLen dCap A sLen sCap hd hs t k cur xs hr hx hxl m hm h0 hfit
    (h _ (hr.setRow fun z hz => by
      rcases List.mem_append.1 hz with h1 | h1
      · exact hr.1 z (List.mem_of_mem_take h1)
      · rcases List.mem_append.1 h1 with h1 | h1
        · exact hxw z (List.mem_of_mem_take h1)
        · exact hr.1 z (List.mem_of_mem_drop h1)) (grown_setRow _ _ _) (Lib.hid (by simp)))
/-- an array out of a slice: its address -/
theorem wpListIn_arrayAt (hw : Region.wanted o (yielded ops a.tmps) = true) (ty : TypeId) (x : Operand) (ho : o.op = .sliceToArrayPointer ty x) (A : Option Addr) (len cap m : Nat) (e : TypeId) (hx : a.eval x = .slice A len cap) (hu : P.underlying ty = some (.array m e)) (hm : m ≤ len)
    (h : wpListIn F n P ops Q rest (a.put o.dst (.pointer A)) w) : wpListIn F n P ops Q (o :: rest) a w := by
  have hl : ¬ len < m := by omega
  refine wpListIn_step fun K hK => ?_
  rw [if_pos hw]
  unfold Oper.wpIn
  refine ⟨fun f hf => by simp [Oper.about, ho] at hf, ?_⟩
  rw [Oper.semAt_plain F _ _ (by rw [ho]; intro c hc'; cases hc')]
  unfold execOp
  simp only [ho, hx, Instr.arrayAt, Sem.run_bind, run_underlying hu, Result.andThen_ok, hl, if_false, Sem.run_pure]
  exact hK _ _ h
/-- some numbers of a block that is known whole, as an array -/
theorem wpListIn_load_midRow (hw : Region.wanted o (yielded ops a.tmps) = true) (ty : TypeId) (x : Operand) (ho : o.op = .load ty x) (g off : Nat) (hx : a.eval x = .pointer (some ⟨g, off, none⟩)) (t : TypeId) (k : IntKind) (zs : List Int) (hr : Row w g t k zs) (m : Nat) (e : TypeId)
    (hu : P.underlying ty = some (.array m e)) (hi : (P.info? ty).map (·.size) = some m) (hn : off + m ≤ zs.length) (h : wpListIn F n P ops Q rest (a.put o.dst (.agg (arr k ((zs.drop off).take m)))) w) : wpListIn F n P ops Q (o :: rest) a w := by
  refine wpListIn_step fun K hK => ?_
  rw [if_pos hw]
  unfold Oper.wpIn
  refine ⟨fun f hf => by simp [Oper.about, ho] at hf, ?_⟩
  rw [Oper.semAt_plain F _ _ (by rw [ho]; intro c hc'; cases hc')]
  unfold execOp
  simp only [ho, hx, Instr.loadAt, Instr.sureAddr, Sem.run_bind, Sem.run_pure, Result.andThen_ok, run_loadVar_mid w g off ty (((zs.drop off).take m).map (Value.int k)) _ (Po.rangeAt_row hr off m) hu rfl (by rw [hi]; simp; omega)]
  exact hK _ _ h
end
end Go.Proofs.YtebcejncjljmhaaDoor.Mem
namespace Go.Proofs.YtebcejncjljmhaaDoor.Ae
open Go.RowKit Go.Shelf Go.Proofs.YtebcejncjljmhaaDoor.Mem Go.Proofs.YtebcejncjljmhaaDoor.Help Go.Proofs.YtebcejncjljmhaaDoor.Sum Go.Proofs.YtebcejncjljmhaaDoor.Po Go.Proofs.YtebcejncjljmhaaDoor.Range Go.Proofs.YtebcejncjljmhaaDoor.Sha Go.Proofs.YtebcejncjljmhaaDoor
set_option linter.unusedVariables false
attribute [local go_sem] Oper.semAt_some
attribute [local irreducible] wpList wpListIn

theorem wpListIn_make_Row {F : Fence} {N : Nat} {P : Program} (w : World) {ops : Array Oper} {rest : List Oper} {o : Oper} {a : Act} {Q : Exit → Act → World → Prop} (hg : o.guard = none) (l c : Operand) (t : TypeId) (hop : o.op = Op.makeSlice t l c)
    (e : TypeId) (k : IntKind) (bytes : Nat) (ht : P.underlying t = some (.slice e)) (hinfo : (P.info? e).map (fun i => (i.zero, i.size, i.bytes)) = some (some (.int k 0), 1, bytes))
    (kl kc : IntKind) (n : Nat) (hl : a.eval l = .int kl (n : Int)) (hc : a.eval c = .int kc (n : Int)) (hby : bytes ≤ 8) (hn : n ≤ 17592186044416)
    (hK : ∀ w', Row w' w.heap.size e k (List.replicate n 0) → w.grownBy w' none → Hid (w'.heap.size = w.heap.size + 1) → wpListIn F N P ops Q rest (a.put o.dst (.slice (some ⟨w.heap.size, 0, none⟩) n n)) w') :
    wpListIn F N P ops Q (o :: rest) a w := by
  obtain ⟨i, hi, hz, hs, hb⟩ := info_parts hinfo
  refine wpListIn_plain hg fun K hK' => ?_
  have hrun := run_make_row (P := P) t e i (.int k 0) ht hi hz hs rfl kl kc n (by rw [hb]; exact Nat.le_trans (Nat.mul_le_mul hby hn) (by omega)) (by omega) w
  unfold Oper.wpIn
  refine ⟨?_, ?_⟩
  · simp [Oper.about, hop]
  · rw [Oper.semAt_plain F _ _ (by rw [hop]; intro c hc'; cases hc')]
    simp [execOp, hop, hl, hc, hrun, Result.andThen]
    refine hK' _ _ (hK _ ?_ (World.grownBy_alloc w _ none) (Lib.hid (by simp)))
    rw [made_zeros]
    exact Row.new w e (fun z hz => by rw [List.eq_of_mem_replicate hz]; cases k <;> decide)

theorem paddings_any (A : Option Addr) (m c : Nat) (w : World) :
    Calls Tryd.prog 28 #[.slice A m c] w fun e w' => e = .returned (.func (.func 41) #[] #[.pointer (some ⟨w.heap.size, 0, none⟩)]) ∧ w' = w.alloc (.cells #[.slice A m c] 49) := by
  go_enter Tryd.func28, Tryd.ntmps28
  go_wp2
  go_ret
  exact ⟨rfl, rfl⟩

/-- a slice that reads as values, at a block that is none of S -/
def ValsA (w : World) (S : Nat → Prop) (A : Option Addr) (n : Nat) (vs : List Value) : Prop :=
  vs.length = n ∧ (0 < n → ∃ b off, A = some ⟨b, off, none⟩ ∧ ¬ S b ∧ ∀ i, i < n → w.cell? ⟨b, off + i, none⟩ = some (vs.getD i undef))
theorem ValsA.only {S : Nat → Prop} {w w' : World} {A : Option Addr} {n : Nat} {vs : List Value} (h : ValsA w S A n vs) (ho : Only S w w') : ValsA w' S A n vs :=
  ⟨h.1, fun hn => by
    obtain ⟨b, off, e, hb, hc⟩ := h.2 hn
    exact ⟨b, off, e, hb, fun i hi => ho.cell (p := ⟨b, off + i, none⟩) hb (hc i hi)⟩⟩
theorem ValsA.below {S : Nat → Prop} {w w' : World} {A : Option Addr} {n : Nat} {vs : List Value} (h : ValsA w S A n vs) (hb : Below w.heap.size w w') : ValsA w' S A n vs :=
  ⟨h.1, fun hn => by
    obtain ⟨b, off, e, hS, hc⟩ := h.2 hn
    exact ⟨b, off, e, hS, fun i hi => (hb.cell (p := ⟨b, off + i, none⟩) (World.block_lt_of_cell? w _ (hc i hi))).trans (hc i hi)⟩⟩
/-- a part is handed out, and its zeros, in a new block -/
def Gives (S : Nat → Prop) (x : List Int) (B0 : Nat) (W : World) (args : Array Value) : Prop :=
  ∃ A n c g, args = #[.slice A n c, .slice (some ⟨g, 0, none⟩) (padN n) (padN n)] ∧ n ≤ c ∧ c ≤ maxLen ∧ IntsN W .u8 S A n x ∧ B0 ≤ g ∧ Row W g 5 .u8 (List.replicate (padN n) 0)
theorem padN_int (n : Nat) : ((16 : Int) - (n : Int) % 16) % 16 = (padN n : Int) := by unfold padN; omega
theorem ints_n {S : Nat → Prop} {w w' : World} {k : IntKind} {A : Option Addr} {n : Nat} {zs : List Int} (h : IntsN w k S A n zs) (hb : w.grownBy w' none) : IntsN w' k S A n zs := h.only (Only.of_grown hb (fun r e => by cases e))

set_option maxRecDepth 100000 in
set_option maxHeartbeats 2000000 in
theorem paddings_give (n bx : Nat) (S : Nat → Prop) (A : Option Addr) (m c : Nat) (vs : List Value) (xss : List (List Int)) (w : World) (hbx : w.cell? ⟨bx, 0, none⟩ = some (.slice A m c)) (hbS : ¬ S bx) (h : ValsA w S A m vs) (hl : xss.length = m)
    (ht : ∀ i, i < m → ∃ A n c, vs.getD i undef = .slice A n c ∧ n ≤ c ∧ c ≤ maxLen ∧ IntsN w .u8 S A n (xss.getD i [])) (hm : m ≤ 1073741824) :
    SeqGive Fence.wide n Tryd.prog 41 #[.pointer (some ⟨bx, 0, none⟩)] (Gives S) (Only S) xss w := by
  intro l J W hW hJ hY h0
  have kbx := (hW.cell (p := ⟨bx, 0, none⟩) (World.block_lt_of_cell? w _ hbx)).trans hbx
  have kv := h.below hW
  have kt : ∀ i, i < m → ∃ A n c, vs.getD i undef = .slice A n c ∧ n ≤ c ∧ c ≤ maxLen ∧ IntsN W .u8 S A n (xss.getD i []) := fun i hi => by
    obtain ⟨A', n', c', h1, h2, h3, h4⟩ := ht i hi
    exact ⟨A', n', c', h1, h2, h3, h4.only (Only.of_below hW)⟩
  have HL := Lib.hid hl
  have hmi : (m : Int) ≤ 1073741824 := by omega
  clear hbx h ht hl
  refine callsIn_of_wp Tryd.func41 rfl trivial ?_ rfl
  simp only [Tryd.ntmps41, List.size_toArray, List.length_cons, List.length_nil, Nat.reduceAdd, Nat.reduceSub, Array.replicate_succ, Array.replicate_zero, List.push_toArray, List.append_toArray, List.nil_append, List.cons_append]
  gi_wp2_with fail
  gi_loopw [8] (fun i wr => ∃ k : Nat, k ≤ m ∧ i = .int .i64 k ∧ J (xss.take k) wr ∧ Only S W wr) (fun i _ => m - (intOf i).toNat)
  case atStart => exact ⟨0, by omega, rfl, by simpa using h0, Only.refl _ _⟩
  case round =>
    obtain ⟨k, hk, rfl, Jk, ok⟩ := hrel
    by_cases hlt : k < m
    · obtain ⟨b, off, rfl, hbS', hc⟩ := (kv.only ok).2 (by omega)
      obtain ⟨A1, n1, c1, hv, hn1, hm1, hi1⟩ := kt k hlt
      have hck := hc k hlt
      rw [hv] at hck
      have i1 := hi1.only ok
      have HP := Lib.hid (show xss.take k ++ [xss.getD k []] = xss.take (k + 1) by rw [List.take_add_one, List.getD_eq_getElem?_getD, List.getElem?_eq_getElem (by rw [HL.out]; exact hlt)]; rfl)
      have hpre : xss.take k ++ [xss.getD k []] <+: xss := by rw [HP.out]; exact List.take_prefix _ _
      have hlt' : (k : Int) < (m : Int) := by omega
      have hk0 : (0 : Int) ≤ (k : Int) := by omega
      have hpn := padN_int n1
      have hp16 := padN_lt n1
      have hm63 : n1 ≤ 9223372036854775807 := by unfold maxLen at hm1; omega
      have W1 : IntKind.i64.wrap ((16 : Int) - (n1 : Int) % 16) = (16 : Int) - (n1 : Int) % 16 := by rw [IntKind.wrap_i64]; omega
      have W2 : Int.tmod (n1 : Int) 16 = (n1 : Int) % 16 := Int.tmod_eq_emod_of_nonneg (by omega)
      have W3 : Int.tmod ((16 : Int) - (n1 : Int) % 16) 16 = (padN n1 : Int) := by rw [Int.tmod_eq_emod_of_nonneg (by omega)]; exact hpn
      generalize xss.getD k [] = x at i1 hi1 HP hpre
      clear hc hv hi1
      gi_wp2_with (first
        | (refine wpListIn_make_Row wr rfl _ _ 24 rfl 5 .u8 1 Tryd.underlying24 info_u8 .i64 .i64 (padN n1) rfl rfl (by omega) (by omega) ?_; intro w2 r2 g2 z2; obtain ⟨fn, tmps, assign, body, hy, hR⟩ := hY (xss.take k) x #[.slice A1 n1 c1, .slice (some ⟨wr.heap.size, 0, none⟩) (padN n1) (padN n1)] wr w2 Jk g2 ⟨A1, n1, c1, wr.heap.size, rfl, hn1, hm1, ints_n i1 g2, Nat.le_refl _, r2⟩ hpre))
      refine ⟨fun h => (by cases h), ?_⟩
      refine hR.mono ?_
      rintro e W4 ⟨rfl, J4, o4⟩
      rw [HP.out] at J4
      have o5 := (ok.trans (Only.of_grown g2 (fun r e => by cases e))).trans o4
      clear hR hy r2 g2 z2 i1 hpre W1 W2 W3 hpn o4 ok hck
      gi_wp2_with fail
      go_roundw
      case rel => exact ⟨k + 1, by omega, by go_num, J4, o5⟩
      case measure => simp [intOf]; omega
    · have hkm : k = m := by omega
      subst hkm
      rw [List.take_of_length_le (by rw [HL.out]; omega)] at Jk
      gi_wp2_with fail
      go_end0
      exact ⟨⟨_, rfl⟩, Jk⟩
end Go.Proofs.YtebcejncjljmhaaDoor.Ae
namespace Go.Proofs.YtebcejncjljmhaaDoor.Ae
open Go.RowKit Go.Shelf Go.Proofs.YtebcejncjljmhaaDoor.Mem Go.Proofs.YtebcejncjljmhaaDoor.Help Go.Proofs.YtebcejncjljmhaaDoor.Sum Go.Proofs.YtebcejncjljmhaaDoor.Po Go.Proofs.YtebcejncjljmhaaDoor.Range Go.Proofs.YtebcejncjljmhaaDoor.Sha Go.Proofs.YtebcejncjljmhaaDoor
set_option linter.unusedVariables false
attribute [local irreducible] wpList wpListIn

theorem info_bytes : (Tryd.prog.info? 24).map (fun i => (i.zero, i.size, i.bytes)) = some (some (.slice none 0 0), 1, 24) := by kernel_rfl
theorem zero_list : (Tryd.prog.info? 49).bind (·.zero) = some (.slice none 0 0) := by kernel_rfl
theorem size_list : (Tryd.prog.info? 49).map (·.size) = some 1 := by kernel_rfl
/-- the block of a slice's own -/
def blk (A : Option Addr) : Option Nat := A.map (·.block)
theorem blk_own (A : Option Addr) (n c : Nat) : (Value.slice A n c).ownBlock = blk A := by cases A <;> rfl
/-- the variable's block, or the list's -/
def Tied (lb : Nat) (A : Option Addr) (b : Nat) : Prop := b = lb ∨ blk A = some b
theorem _root_.Go.Proofs.YtebcejncjljmhaaDoor.Mem.IntsN.shift {w : World} {k : IntKind} {S S' : Nat → Prop} {A : Option Addr} {n : Nat} {zs : List Int} (h : IntsN w k S A n zs) (hS : ∀ b, ¬ S b → b < w.heap.size → ¬ S' b) : IntsN w k S' A n zs :=
  ⟨h.1, h.2.1, fun hn => by
    obtain ⟨b, off, e, hb, hc⟩ := h.2.2 hn
    exact ⟨b, off, e, hS b hb (World.block_lt_of_cell? w _ (hc 0 hn)), hc⟩⟩
theorem _root_.Go.Proofs.YtebcejncjljmhaaDoor.Mem.IntsN.ints {w : World} {k : IntKind} {S : Nat → Prop} {A : Option Addr} {n : Nat} {zs : List Int} (h : IntsN w k S A n zs) : Ints w k w.heap.size A n zs :=
  ⟨h.1, h.2.1, fun hn => by
    obtain ⟨b, off, e, hb, hc⟩ := h.2.2 hn
    exact ⟨b, off, e, World.block_lt_of_cell? w _ (hc 0 hn), hc⟩⟩
/-- the values vs are slices that read as the texts xss, at blocks that are none of S -/
def TextsN (w : World) (S : Nat → Prop) (vs : List Value) (xss : List (List Int)) : Prop :=
  vs.length = xss.length ∧ ∀ i, i < vs.length → ∃ A n c, vs.getD i undef = .slice A n c ∧ n ≤ c ∧ c ≤ maxLen ∧ IntsN w .u8 S A n (xss.getD i [])
section
variable {w w' : World} {S S' : Nat → Prop} {vs us : List Value} {xss yss : List (List Int)}
theorem TextsN.only (h : TextsN w S vs xss) (ho : Only S w w') : TextsN w' S vs xss := ⟨h.1, fun i hi => by obtain ⟨A, n, c, e, h1, h2, hh⟩ := h.2 i hi; exact ⟨A, n, c, e, h1, h2, hh.only ho⟩⟩
theorem TextsN.shift (h : TextsN w S vs xss) (hS : ∀ b, ¬ S b → b < w.heap.size → ¬ S' b) : TextsN w S' vs xss := ⟨h.1, fun i hi => by obtain ⟨A, n, c, e, h1, h2, hh⟩ := h.2 i hi; exact ⟨A, n, c, e, h1, h2, hh.shift hS⟩⟩
theorem TextsN.nil (w : World) (S : Nat → Prop) : TextsN w S [] [] := ⟨rfl, fun i hi => by simp at hi⟩
theorem TextsN.texts (h : TextsN w S vs xss) : Texts w w.heap.size vs xss := ⟨h.1, fun i hi => by obtain ⟨A, n, c, e, h1, h2, hh⟩ := h.2 i hi; exact ⟨A, n, c, e, h1, h2, hh.ints⟩⟩
theorem TextsN.append (h : TextsN w S vs xss) (k : TextsN w S us yss) : TextsN w S (vs ++ us) (xss ++ yss) := by
  refine ⟨by simp [h.1, k.1], fun i hi => ?_⟩
  by_cases q : i < vs.length
  · have := h.2 i q
    simp only [List.getD_eq_getElem?_getD] at this ⊢
    rw [List.getElem?_append_left q, List.getElem?_append_left (by rw [← h.1]; exact q)]
    exact this
  · rw [List.length_append] at hi
    have := k.2 (i - vs.length) (by omega)
    simp only [List.getD_eq_getElem?_getD] at this ⊢
    rw [List.getElem?_append_right (by omega), List.getElem?_append_right (by rw [← h.1]; omega), ← h.1]
    exact this
theorem TextsN.one {A : Option Addr} {n c : Nat} {xs : List Int} (h : IntsN w .u8 S A n xs) (h1 : n ≤ c) (h2 : c ≤ maxLen) : TextsN w S [.slice A n c] [xs] :=
  ⟨rfl, fun i hi => by
    have : i = 0 := by simpa using hi
    subst this
    exact ⟨A, n, c, rfl, h1, h2, h⟩⟩
end

/-- a list of slices, in a variable at lb that holds v0; two arrays and the result beside -/
structure Lst (w : World) (Z lb gk gn gr : Nat) (key nonce : List Int) (v0 : Value) (xss : List (List Int)) (A : Option Addr) (n c : Nat) (W : World) : Prop where
  ord : w.heap.size ≤ gk ∧ w.heap.size ≤ gn ∧ w.heap.size ≤ gr ∧ gk < lb ∧ gn < lb ∧ gr < lb ∧ lb < Z
  low : Z ≤ W.heap.size
  cell : W.heap[lb]? = some (.cells #[v0] 49 (0, 0))
  own : ∃ vs, W.ownsRow Z 24 1 (.slice A n c) n vs ∧ TextsN W (Tied lb A) vs xss
  rk : Row W gk 22 .u8 key
  rn : Row W gn 23 .u8 nonce
  rr : Row W gr 41 .u8 (List.replicate 16 0)
  below : Below w.heap.size w W
section
variable {w W W' : World} {Z lb gk gn gr : Nat} {key nonce : List Int} {v0 : Value} {xss yss : List (List Int)} {A : Option Addr} {n c : Nat}
theorem Lst.lt (h : Lst w Z lb gk gn gr key nonce v0 xss A n c W) : ∀ b, blk A = some b → Z ≤ b ∧ b < W.heap.size := fun b e => by
  obtain ⟨vs, ho, _⟩ := h.own
  exact ho.lt b (by rw [blk_own]; exact e)
theorem Lst.cells (h : Lst w Z lb gk gn gr key nonce v0 xss A n c W) : ∀ (b : Nat) (o : Obj), blk A = some b → W.heap[b]? = some o → o.isCells = true := fun b o e ho => by
  obtain ⟨vs, h1, _⟩ := h.own
  rcases h1.2 with ⟨e1, _⟩ | ⟨g, cap, cur, e1, _, hg, _⟩
  · cases e1; cases e
  · cases e1; cases e; rw [hg] at ho; cases ho; rfl
theorem Lst.len (h : Lst w Z lb gk gn gr key nonce v0 xss A n c W) : xss.length = n := by
  obtain ⟨vs, h1, h2⟩ := h.own
  rw [← h2.1]
  simpa using h1.1
/-- nothing of it is turned -/
theorem Lst.keep (h : Lst w Z lb gk gn gr key nonce v0 xss A n c W) {row : Option Nat} (hg : W.grownBy W' row) (hr : ∀ r, row = some r → Z ≤ r ∧ ∃ o : Obj, W.heap[r]? = some o ∧ o.isCells = false) : Lst w Z lb gk gn gr key nonce v0 xss A n c W' := by
  obtain ⟨o1, o2, o3, o4, o5, o6, o7⟩ := h.ord
  have hne : ∀ b, b < Z → some b ≠ row := fun b hb e => by have := (hr b e.symm).1; omega
  refine ⟨h.ord, Nat.le_trans h.low hg.size, (hg.block lb (Array.getElem?_eq_some_iff.1 h.cell).1 (hne _ o7)).trans h.cell, ?_, h.rk.grown hg (hne _ (by omega)), h.rn.grown hg (hne _ (by omega)), h.rr.grown hg (hne _ (by omega)),
    h.below.grown hg h.below.size (fun r e => by have := (hr r e).1; omega)⟩
  obtain ⟨vs, h1, h2⟩ := h.own
  refine ⟨vs, h1.kept hg ?_, h2.only ⟨hg.size, fun i o _ ho hc => (hg.block i (Array.getElem?_eq_some_iff.1 ho).1 (fun e => ?_)).trans ho⟩⟩
  · rw [blk_own]
    cases hb : blk A with
    | none => exact .inl rfl
    | some b =>
      refine .inr fun e => ?_
      obtain ⟨_, o, ho, hc⟩ := hr b e.symm
      rw [h.cells b o hb ho] at hc
      cases hc
  · obtain ⟨_, o', ho', hc'⟩ := hr i e.symm
    rw [ho] at ho'
    cases ho'
    rw [hc] at hc'
    cases hc'
theorem Lst.grow (h : Lst w Z lb gk gn gr key nonce v0 xss A n c W) (hg : W.grownBy W' none) : Lst w Z lb gk gn gr key nonce v0 xss A n c W' := h.keep hg (fun r e => by cases e)
/-- appended to -/
theorem Lst.append (h : Lst w Z lb gk gn gr key nonce v0 xss A n c W) (hn : n ≤ 1000) (ty : TypeId) (B : Nat) (A2 : Option Addr) (m c2 : Nat) (us : List Value) (hv : Vals W B A2 m us) (hm : m ≤ 1000) (ht : TextsN W (Tied lb A) us yss) :
    ∃ A' c' W', (Builtin.append_ #[49, 49] ty #[.slice A n c, .slice A2 m c2]).run Tryd.prog W = .ok (.slice A' (n + m) c') W' ∧ Lst w Z lb gk gn gr key nonce v0 (xss ++ yss) A' (n + m) c' W' ∧ W.grownBy W' (blk A) := by
  obtain ⟨o1, o2, o3, o4, o5, o6, o7⟩ := h.ord
  obtain ⟨vs, h1, h2⟩ := h.own
  obtain ⟨v', W', hrun, q2, q3, q4⟩ := run_append_vals (P := Tryd.prog) W Z 49 ty 24 (.slice none 0 0) 24 Tryd.underlying49 info_bytes rfl (.slice A n c) n vs h1 B A2 m c2 us hv (by omega) (by omega) h.low
  obtain ⟨A', c', rfl, q5, q6⟩ := Held.row_form q2
  rw [blk_own] at q3
  rw [blk_own, blk_own] at q4
  have hne : ∀ b, b < Z → some b ≠ blk A := fun b hb e => by have := (h.lt b e.symm).1; omega
  refine ⟨A', c', W', hrun, ⟨h.ord, Nat.le_trans h.low q3.size, (q3.block lb (Array.getElem?_eq_some_iff.1 h.cell).1 (hne _ o7)).trans h.cell, ⟨_, q2, ?_⟩, h.rk.grown q3 (hne _ (by omega)), h.rn.grown q3 (hne _ (by omega)), h.rr.grown q3 (hne _ (by omega)),
    h.below.grown q3 h.below.size (fun r e => by have := (h.lt r e).1; omega)⟩, q3⟩
  refine ((h2.append ht).shift (S' := fun b => b = lb ∨ blk A = some b ∨ blk A' = some b) (fun b hb hlt e => ?_)).only (Only.of_grown q3 (fun r e => .inr (.inl e))) |>.shift (fun b hb _ e => hb ?_)
  · rcases e with e | e | e
    · exact hb (.inl e)
    · exact hb (.inr e)
    · rcases q4 with q | q
      · rw [q] at e; exact hb (.inr e)
      · rw [q] at e
        have e : some W.heap.size = some b := e
        injection e with e
        omega
  · rcases e with e | e
    · exact .inl e
    · exact .inr (.inr e)
/-- kept in the variable -/
theorem Lst.store (h : Lst w Z lb gk gn gr key nonce v0 xss A n c W) {v1 : Value} (hc : W'.heap[lb]? = some (.cells #[v1] 49 (0, 0))) (hg : W.grownBy W' (some lb)) : Lst w Z lb gk gn gr key nonce v1 xss A n c W' := by
  obtain ⟨o1, o2, o3, o4, o5, o6, o7⟩ := h.ord
  refine ⟨h.ord, Nat.le_trans h.low hg.size, hc, ?_, h.rk.grown hg (by intro e; injection e with e; omega), h.rn.grown hg (by intro e; injection e with e; omega), h.rr.grown hg (by intro e; injection e with e; omega),
    h.below.grown hg h.below.size (fun r e => by cases e; omega)⟩
  obtain ⟨vs, h1, h2⟩ := h.own
  refine ⟨vs, h1.kept hg ?_, h2.only (Only.of_grown hg (fun r e => by cases e; exact .inl rfl))⟩
  rw [blk_own]
  cases hb : blk A with
  | none => exact .inl rfl
  | some b => exact .inr fun e => by have := (h.lt b hb).1; injection e with e; omega
end
theorem wpListIn_append_list {F : Fence} {N : Nat} {w W : World} {Z lb gk gn gr : Nat} {key nonce : List Int} {v0 : Value} {xss yss : List (List Int)} {A : Option Addr} {n c : Nat} (h : Lst w Z lb gk gn gr key nonce v0 xss A n c W) {ops : Array Oper} {rest : List Oper} {o : Oper} {a : Act} {Q : Exit → Act → World → Prop} (hg : o.guard = none)
    (s x : Operand) (ho : o.op = .call { callee := .builtin .append, args := #[s, x], argTypes := #[49, 49] }) (hs : a.eval s = .slice A n c) (hn : n ≤ 1000) (B : Nat) (A2 : Option Addr) (m c2 : Nat) (us : List Value) (hx : a.eval x = .slice A2 m c2) (hv : Vals W B A2 m us) (hm : m ≤ 1000) (ht : TextsN W (Tied lb A) us yss)
    (hK : ∀ A' c' W', Lst w Z lb gk gn gr key nonce v0 (xss ++ yss) A' (n + m) c' W' → W.grownBy W' (blk A) → wpListIn F N Tryd.prog ops Q rest (a.put o.dst (.slice A' (n + m) c')) W') : wpListIn F N Tryd.prog ops Q (o :: rest) a W := by
  obtain ⟨A', c', W', hrun, hL, hG⟩ := h.append hn o.type B A2 m c2 us hv hm ht
  refine wpListIn_plain hg fun K hK' => ?_
  unfold Oper.wpIn
  refine ⟨?_, ?_⟩
  · simp [Oper.about, ho, resolve, Target.leads, Sem.run_pure]
  · rw [Oper.semAt_plain F _ _ (by rw [ho]; intro c hc'; cases hc')]
    simp [execOp, ho, resolve, invoke, builtin, hs, hx, hrun, Result.andThen]
    exact hK' _ _ (hK _ _ _ hL hG)
theorem op_append_list {w W : World} {Z lb gk gn gr : Nat} {key nonce : List Int} {v0 : Value} {xss yss : List (List Int)} {A : Option Addr} {n c : Nat} (h : Lst w Z lb gk gn gr key nonce v0 xss A n c W) {ops : Array Oper} {Q : Exit → Act → World → Prop} (i : Nat) (d : Option Tmp) {o : Oper} {a : Act} {K : Act → World → Prop} {s x : Operand} (hi : ops[i]? = some o) (hd : o.dst = d) (hw : Region.wanted o (yielded ops a.tmps) = true)
    (ho : o.op = .call { callee := .builtin .append, args := #[s, x], argTypes := #[49, 49] }) (hs : a.eval s = .slice A n c) (hn : n ≤ 1000) (B : Nat) (A2 : Option Addr) (m c2 : Nat) (us : List Value) (hx : a.eval x = .slice A2 m c2) (hv : Vals W B A2 m us) (hm : m ≤ 1000) (ht : TextsN W (Tied lb A) us yss)
    (hK : ∀ A' c' W', Lst w Z lb gk gn gr key nonce v0 (xss ++ yss) A' (n + m) c' W' → W.grownBy W' (blk A) → K (a.put d (.slice A' (n + m) c')) W') : wpOp Tryd.prog ops Q i K a W := by
  subst hd
  obtain ⟨A', c', W', hrun, hL, hG⟩ := h.append hn o.type B A2 m c2 us hv hm ht
  refine Held.op_wp i hi hw ?_
  exact Lib.wp_append_run W s x 49 49 ho _ _ hs hx _ W' hrun (hK _ _ _ hL hG)
end Go.Proofs.YtebcejncjljmhaaDoor.Ae
