/-
  The function tagOf of package aead by its contract: the tag of what stands beside and of what was turned.
  The function Blocks of package chacha by its contract: an iterator without end.
-/
import Derived.Test.YtjelacblnjbfgaaGreatDoorB23
import Derived.Test.YtjelacblnjbfgaaGreatDoorB25
import Derived.Test.YtjelacblnjbfgaaGreatDoorB5
import Derived.OneCell
import Derived.Test.YtjelacblnjbfgaaGreatDoorB15
import Derived.Deep.LoopGhost
set_option linter.unusedVariables false
namespace Go.Proofs.YtjelacblnjbfgaaGreatDoor.Ae
open Go.RowKit Go.Shelf Go.Proofs.YtjelacblnjbfgaaGreatDoor Mem Help Go.Proofs.YtjelacblnjbfgaaGreatDoor.Sum Po Go.Proofs.YtjelacblnjbfgaaGreatDoor.Range Sha
attribute [local go_sem] Oper.semAt_some
attribute [local irreducible] wpList wpListIn Calls
def pair (x : List Int) : List (List Int) := [x, List.replicate (padN x.length) 0]
theorem ints_of {w : World} {g m : Nat} {t : TypeId} {k : IntKind} {zs : List Int} {S : Nat → Prop} (h : Row w g t k zs) (hl : zs.length = m) (hg : ¬ S g) : IntsN w k S (some ⟨g, 0, none⟩) m zs := by
  subst hl
  exact IntsN.row h hg
def Inv (w : World) (Z lb gk gn gr : Nat) (key nonce : List Int) (pre : List (List Int)) (W : World) : Prop :=
  ∃ A c, Lst w Z lb gk gn gr key nonce (.slice A (2 * pre.length) c) (pre.flatMap pair) A (2 * pre.length) c W
set_option maxRecDepth 100000 in
set_option maxHeartbeats 4000000 in
theorem tagof_any (key nonce : List Int) (B : Nat) (A : Option Addr) (n c : Nat) (xs : List Int) (B2 : Nat) (A2 : Option Addr) (n2 c2 : Nat) (ys : List Int) (w : World) (hk : key.length = 32) (hkb : Bs key) (hnl : nonce.length = 12) (hnb : Bs nonce)
    (h : Ints w .u8 B A n xs) (hB : B ≤ w.heap.size) (hc : n ≤ c) (hcm : c ≤ maxLen) (hn : n ≤ 274877906944) (h2 : Ints w .u8 B2 A2 n2 ys) (hB2 : B2 ≤ w.heap.size) (hc2 : n2 ≤ c2) (hcm2 : c2 ≤ maxLen) (hn2 : n2 ≤ 274877906944)
    (hT : Sha.Tab w 1 Cc.sigma) (hP : TabK w 0 .u8 keptI) :
    Calls Tryz.prog 35 #[.agg (arr .u8 key), .agg (arr .u8 nonce), .slice A n c, .slice A2 n2 c2] w fun e w' => e = .returned (.agg (arr .u8 (aeTag key nonce xs ys))) ∧ Below w.heap.size w w' := by
  refine (callsIn_wide (n := 3)).1 ?_
  refine callsIn_of_wp_marks Tryz.func35 rfl trivial ?_ rfl
  simp only [Tryz.ntmps35, List.size_toArray, List.length_cons, List.length_nil, Nat.reduceAdd, Nat.reduceSub, Array.replicate_succ, Array.replicate_zero, List.push_toArray, List.append_toArray, List.nil_append, List.cons_append]
  have HK := Lib.hid hk
  have HN := Lib.hid hnl
  clear hk hnl
  gi_wp2_with (first
    | (refine wpListIn_box_Row rfl 22 _ rfl .u8 key rfl (bs_wf hkb) ?_; intro w1 r1 g1 z1)
    | (refine wpListIn_box_Row (w := w1) rfl 45 _ rfl .u8 nonce rfl (bs_wf hnb) ?_; intro w2 r2 g2 z2; have k2 := r1.grown g2 (by simp))
    | (refine wpListIn_alloc_Row (w := w2) rfl 58 rfl .u8 16 zero_16b ?_; intro w3 r3 g3 z3; have k3 := k2.grown g3 (by simp); have n3 := r2.grown g3 (by simp))
    | (refine Held.wpListIn_alloc_cell (w := w3) rfl 89 rfl (.slice none 0 0) zero_list rfl ?_; intro w4 l4 g4 z4))
  obtain ⟨gn, hgn⟩ : ∃ g, w1.heap.size = g := ⟨_, rfl⟩
  obtain ⟨gr, hgr⟩ : ∃ g, w2.heap.size = g := ⟨_, rfl⟩
  obtain ⟨lb, hlb⟩ : ∃ g, w3.heap.size = g := ⟨_, rfl⟩
  obtain ⟨gp, hgp⟩ : ∃ g, w4.heap.size = g := ⟨_, rfl⟩
  have e1 := z1.out
  have e2 := z2.out
  have e3 := z3.out
  have e4 := z4.out
  rw [hgn] at e1 e2 n3
  rw [hgr] at e2 e3 r3
  rw [hlb] at e3 e4 l4
  have k4 := k3.grown g4 (by simp)
  have n4 := n3.grown g4 (by simp)
  have r4 := r3.grown g4 (by simp)
  have b4 : Below w.heap.size w w4 := ((((Below.refl _ w).grown g1 (Nat.le_refl _) (by simp)).grown g2 g1.size (by simp)).grown g3 (by omega) (by simp)).grown g4 (by omega) (by simp)
  have HG1 := Lib.hid (show w.heap.size < gr by omega)
  have HG2 := Lib.hid (show gn < gr by omega)
  have hord : w.heap.size ≤ w.heap.size ∧ w.heap.size ≤ gn ∧ w.heap.size ≤ gr ∧ w.heap.size < lb ∧ gn < lb ∧ gr < lb ∧ lb < gp + 2 := by omega
  have hlbp : lb < gp := by omega
  have HGP := Lib.hid hgp
  rw [hgp] at e4
  rw [hgn, hgr, hlb, hgp]
  clear hgn hgr hlb hgp e1 e2 e3 e4 z1 z2 z3 z4 g1 g2 g3 g4 k2 k3 n3 r1 r2 r3 w1 w2 w3
  refine ⟨trivial, ?_⟩
  refine (callsIn_wide.2 (paddings_any (some ⟨gp, 0, none⟩) 2 2 _)).mono ?_
  rintro e W6 ⟨rfl, hW6⟩
  have z6 : W6.heap.size = gp + 2 := by rw [hW6]; simp [HGP.out]
  have g6 : w4.grownBy W6 none := by rw [hW6]; exact Lib.grownBy_trans (World.grownBy_alloc _ _ none) (World.grownBy_alloc _ _ none)
  have q1 : W6.cell? ⟨gp + 1, 0, none⟩ = some (.slice (some ⟨gp, 0, none⟩) 2 2) := by rw [hW6, World.cell?_alloc_at _ _ _ _ (by simp [HGP.out])]; rfl
  have qr : W6.heap[gp]? = some (.cells #[.slice A n c, .slice A2 n2 c2] 27 (0, 0)) := by
    rw [hW6, Below.heap_alloc _ _ _ (by simp [HGP.out]), ← HGP.out]
    exact heap_alloc_new w4 _
  rw [World.size_alloc, HGP.out]
  have b6 : Below w.heap.size w W6 := b4.grown g6 b4.size (by simp)
  have L6 : Lst w (gp + 2) lb w.heap.size gn gr key nonce (.slice none 0 0) [] none 0 0 W6 :=
    ⟨hord, by omega, (g6.block lb (Array.getElem?_eq_some_iff.1 l4).1 (by simp)).trans l4, ⟨[], World.ownsRow_nil _ _ _ _, TextsN.nil _ _⟩, k4.grown g6 (by simp), n4.grown g6 (by simp), r4.grown g6 (by simp), b6⟩
  have i6 : Inv w (gp + 2) lb w.heap.size gn gr key nonce [] W6 := ⟨none, 0, L6⟩
  obtain ⟨S, hS⟩ : ∃ S : Nat → Prop, S = fun b => b = lb ∨ gp + 2 ≤ b := ⟨_, rfl⟩
  have hS1 : ∀ b, b < w.heap.size → ¬ S b := fun b hb e => by rw [hS] at e; omega
  have hSp : ¬ S gp := fun e => by rw [hS] at e; omega
  have hSb : ¬ S (gp + 1) := fun e => by rw [hS] at e; omega
  have va : ValsA W6 S (some ⟨gp, 0, none⟩) 2 [.slice A n c, .slice A2 n2 c2] := ⟨rfl, fun _ => ⟨gp, 0, rfl, hSp, fun i hi => by
    rw [Nat.zero_add, cell_of_row W6 gp i _ 27 (0, 0) qr]
    match i, hi with
    | 0, _ => rfl
    | 1, _ => rfl⟩⟩
  have ta : ∀ i, i < 2 → ∃ A' n' c', [Value.slice A n c, Value.slice A2 n2 c2].getD i undef = .slice A' n' c' ∧ n' ≤ c' ∧ c' ≤ maxLen ∧ IntsN W6 .u8 S A' n' ([xs, ys].getD i []) := fun i hi => by
    match i, hi with
    | 0, _ => exact ⟨A, n, c, rfl, hc, hcm, IntsN.of (h.below (b6.mono hB)) (fun b hb => hS1 b (by omega))⟩
    | 1, _ => exact ⟨A2, n2, c2, rfl, hc2, hcm2, IntsN.of (h2.below (b6.mono hB2)) (fun b hb => hS1 b (by omega))⟩
  have hit := fun N => paddings_give N (gp + 1) S (some ⟨gp, 0, none⟩) 2 2 _ [xs, ys] W6 q1 hSb va rfl ta (by omega)
  have Z6 := Lib.hid z6
  have HXL := Lib.hid h.1
  have HYL := Lib.hid h2.1
  have HBX := Lib.hid (Cha.bs_of_ints h)
  have HBY := Lib.hid (Cha.bs_of_ints h2)
  have HS := Lib.hid hS
  clear hS hW6 z6 g6 q1 qr va ta k4 n4 r4 l4 b4 L6 hS1 hSp hSb HGP w4 h h2
  gi_wp2_with fail
  refine wpIn_rangeFunc_give rfl (by omega) (gf := 79) (lb := #[.pointer (some ⟨gp + 1, 0, none⟩)]) rfl trivial (enters_of Tryz.func79 (by kernel_rfl) rfl)
    (hit _) (fun h k => h.trans k) (fun W l o o' hl ho hc _ => Only.put W l o o' ho hc) (Below.refl _ _) (fun x B W args hx => by obtain ⟨_, _, _, _, rfl, _⟩ := hx; rfl)
    (Inv w (gp + 2) lb w.heap.size gn gr key nonce) (fun s W W' row hs hg hr => by obtain ⟨A', c', hL⟩ := hs; exact ⟨A', c', hL.keep hg (fun r e => by have := hr r e; rw [Z6.out] at this; exact this)⟩) i6
    (fun x a' pre W => ∃ A1 c1 Ap np cp g, Lst w (gp + 2) lb w.heap.size gn gr key nonce (.slice A1 (2 * pre.length) c1) (pre.flatMap pair) A1 (2 * pre.length) c1 W ∧ np ≤ cp ∧ cp ≤ maxLen ∧ IntsN W .u8 S Ap np x ∧ gp + 2 ≤ g ∧ blk A1 ≠ some g ∧ Row W g 5 .u8 (List.replicate (padN np) 0) ∧
      a' = { tmps := #[.agg (arr .u8 key), .agg (arr .u8 nonce), .slice A n c, .slice A2 n2 c2, .pointer (some ⟨w.heap.size, 0, none⟩), .pointer (some ⟨gn, 0, none⟩), undef, undef, .pointer (some ⟨gr, 0, none⟩), .pointer (some ⟨lb, 0, none⟩), .slice Ap np cp, .slice (some ⟨g, 0, none⟩) (padN np) (padN np), .slice A n c, .slice A2 n2 c2, .slice (some ⟨gp, 0, none⟩) 2 2, .func (.func 79) #[] #[.pointer (some ⟨gp + 1, 0, none⟩)], .slice Ap np cp, .slice (some ⟨g, 0, none⟩) (padN np) (padN np), undef, undef, undef, undef, undef, undef, undef, undef, undef, undef, undef, undef, undef, undef, undef, undef, undef], defers := [] }) ?ib ?assign ?body ?done
  case ib =>
    rintro x a' pre W W' row ⟨A1, c1, Ap, np, cp, g, hL, h1, h2, h3, h4, h5, h6, h7⟩ hgr hr
    refine ⟨A1, c1, Ap, np, cp, g, hL.keep hgr (fun r e => by have := hr r e; rw [Z6.out] at this; exact this), h1, h2, h3.only ⟨hgr.size, fun i o _ ho hc => (hgr.block i (Array.getElem?_eq_some_iff.1 ho).1 (fun e => ?_)).trans ho⟩, h4, h5, h6.grown hgr (Held.ne_of_cells h6.2 (fun r e => (hr r e).2)), h7⟩
    obtain ⟨_, o', ho', hc'⟩ := hr i e.symm
    rw [ho] at ho'
    cases ho'
    rw [hc] at hc'
    cases hc'
  case assign =>
    rintro l pre x args W0 W K ⟨A1, c1, hL⟩ hg ⟨Ap, np, cp, g, rfl, h1, h2, h3, h4, h5⟩ hp hsz hK
    simp only [Held.zip_two, List.setIfInBounds_toArray, List.set_cons_zero, List.set_cons_succ]
    have hl' := hL.low
    gi_wp2_with fail
    exact hK _ _ (KeepsOthers.refl _) (Only.refl _ _) ⟨A1, c1, Ap, np, cp, g, hL.grow hg, h1, h2, h3, by omega, fun e => by have := (hL.lt _ e).2; omega, h5, rfl⟩
  case body =>
    rintro l pre x a' W ⟨A1, c1, Ap, np, cp, g, hL, h1, h2, h3, h4, h5, h6, rfl⟩ hp hsz
    have hx := List.IsPrefix.length_le hp
    have HPL := Lib.hid (show (pre ++ [x]).flatMap pair = pre.flatMap pair ++ [x, List.replicate (padN np) 0] by rw [List.flatMap_append, ← h3.1]; rfl)
    obtain ⟨N, hN⟩ : ∃ N, 2 * pre.length = N := ⟨_, rfl⟩
    have hN2 : N + 2 = 2 * (pre ++ [x]).length := by rw [List.length_append]; simp; omega
    rw [hN] at hL
    have hN3 : N ≤ 1000 := by simp at hx; omega
    have HN2 := Lib.hid hN2
    have cl := cell_of_one hL.cell
    have HA := Lib.hid (World.grownBy_alloc W (.cells #[.slice Ap np cp, .slice (some ⟨g, 0, none⟩) (padN np) (padN np)] 27) none)
    have LA := hL.grow HA.out
    have hvs := Lib.hid ((Vals.new W 27 [.slice Ap np cp, .slice (some ⟨g, 0, none⟩) (padN np) (padN np)] (by simp [Value.oneCell'])))
    have hsh : ∀ b, ¬ S b → ¬ Tied lb A1 b := fun b hb e => by
      rw [HS.out] at hb
      rcases e with e | e
      · exact hb (.inl e)
      · exact hb (.inr (hL.lt b e).1)
    have hgt : ¬ Tied lb A1 g := fun e => by
      rcases e with e | e
      · omega
      · exact h5 e
    have pm := padN_lt np
    have tx : TextsN W (Tied lb A1) [.slice Ap np cp] [x] := TextsN.one (h3.shift (fun b hb _ => hsh b hb)) h1 h2
    have tz : TextsN W (Tied lb A1) [.slice (some ⟨g, 0, none⟩) (padN np) (padN np)] [List.replicate (padN np) 0] := TextsN.one (by
      have := IntsN.row h6 hgt
      rwa [List.length_replicate] at this) (Nat.le_refl _) (by unfold maxLen; omega)
    have HT2 := Lib.hid ((tx.append tz).only (Only.of_grown HA.out (fun r e => by cases e)))
    clear tx tz h3 h6 hx hp hN hN2 hsh
    simp only []
    gi_wp2_with (first
      | (refine wpListIn_append_list LA rfl _ _ rfl rfl hN3 (W.heap.size + 1) (some ⟨W.heap.size, 0, none⟩) 2 2 _ rfl hvs.out (by omega) HT2.out ?_; intro A3 c3 w7 L7 G7)
      | (refine Held.wpListIn_store_box (w := w7) rfl 89 _ _ rfl lb rfl 89 _ (.slice A3 (N + 2) c3) rfl L7.cell size_list rfl rfl ?_; intro w8 l8 g8))
    have L8 := L7.store l8 g8
    refine ⟨((KeepsOthers.of_grownBy HA.out (fun j o e => by cases e)).trans (KeepsOthers.of_grownBy G7 (fun j o e ho => LA.cells j o e ho))).trans (Held.others_of_grown L7.cell g8),
      ((Only.of_grown HA.out (fun r e => by cases e)).trans (Only.of_grown G7 (fun r e => by rw [HS.out]; exact .inr (LA.lt r e).1))).trans (Only.of_grown g8 (fun r e => by cases e; rw [HS.out]; exact .inl rfl)), A3, c3, ?_⟩
    rw [← HN2.out, HPL.out]
    exact L8
  case done =>
    rintro D W hD ⟨A1, c1, hL⟩ hDl
    have hL : Lst w (gp + 2) lb w.heap.size gn gr key nonce (.slice A1 4 c1) (pair xs ++ pair ys) A1 4 c1 W := hL
    have HX8 := Lib.hid (digits_length 8 (n : Int))
    have HY8 := Lib.hid (digits_length 8 (n2 : Int))
    have HFL := Lib.hid (show ((pair xs ++ pair ys) ++ ([digits (n : Int) 8] ++ [digits (n2 : Int) 8])).flatten = text xs ys by simp [pair, text, padL, HXL.out, HYL.out])
    have HLE := Lib.hid (show (text xs ys).length ≤ 1099511627776 by have := text_length xs ys; have := HXL.out; have := HYL.out; omega)
    have HBT := Lib.hid (text_bytes HBX.out HBY.out)
    gi_wp2_with fail
    refine wpIn_mono (Q := fun e a' W5 => e = .normal ∧ ∃ A4 c4 v23 v24 v25 v26 v27 v28 v29, Lst w (gp + 2) lb w.heap.size gn gr key nonce (.slice A4 (4 + 2) c4) ((pair xs ++ pair ys) ++ ([digits (n : Int) 8] ++ [digits (n2 : Int) 8])) A4 (4 + 2) c4 W5 ∧ KeepsOthers W W5 ∧ a' = { tmps := #[.agg (arr .u8 key), .agg (arr .u8 nonce), .slice A n c, .slice A2 n2 c2, .pointer (some ⟨w.heap.size, 0, none⟩), .pointer (some ⟨gn, 0, none⟩), undef, undef, .pointer (some ⟨gr, 0, none⟩), .pointer (some ⟨lb, 0, none⟩), undef, undef, .slice A n c, .slice A2 n2 c2, .slice (some ⟨gp, 0, none⟩) 2 2, .func (.func 79) #[] #[.pointer (some ⟨gp + 1, 0, none⟩)], undef, undef, undef, undef, undef, undef, undef, v23, v24, v25, v26, v27, v28, v29, undef, undef, undef, undef, undef], defers := [{ target := .collected D, args := #[] }] }) ?r6 ?rest
    case r6 =>
      refine Held.wpIn_region_heldR (r := none) (S := fun _ => True) rfl (by kernel_rfl) (by kernel_rfl) (fun a w h => by cases h.1) ?_
      change wpAnyH _ _ _ _ _ _ _ _ W.drew
      refine Held.take (v := .slice A n c) 1 (some 24) rfl rfl (by kernel_rfl) (by kernel_rfl) (by kernel_rfl) (fun _ _ _ h => by cases h.1) rfl (Held.y_move rfl rfl) trivial ?_
      simp only [Act.put, Z1, Z2, Z3]
      refine Held.take (v := .slice A2 n2 c2) 3 (some 26) rfl rfl (by kernel_rfl) (by kernel_rfl) (by kernel_rfl) (fun _ _ _ h => by cases h.1) rfl (Held.y_move rfl rfl) trivial ?_
      simp only [Act.put, Z1, Z2, Z3]
      have L0 := hL.grow (grown_of_below (below_drewN (Below.refl W.heap.size W) 1) none)
      have kk0 : KeepsOthers W W.drew := KeepsOthers.drew W
      change Lst _ _ _ _ _ _ _ _ _ _ _ _ _ W.drew at L0
      refine Held.two 0 2 (by kernel_rfl) ?_ ?_
      · refine Held.op_load 0 (some 23) 89 ⟨lb, 0, none⟩ (.slice A1 4 c1) rfl rfl rfl rfl rfl (Held.run_loadVar_cell _ _ _ _ (by kernel_rfl) (cell_of_one L0.cell)) ?_
        refine ⟨trivial, ?_⟩
        simp only [Act.put, Z1, Z2, Z3]
        refine Held.one 2 (by kernel_rfl) ?_
        refine Held.op_call 2 (some 25) 58 #[.slice A n c] rfl rfl rfl rfl (enters_of Tryz.func58 (by kernel_rfl) rfl) (by simp [Act.eval]) (length_any _ _ _ W.drew (by omega)) ?_
        rintro e w1 ⟨gX, rfl, hgX, rX, b1⟩
        have L1 := L0.grow (grown_of_below b1 none)
        have kk1 := kk0.trans (KeepsOthers.of_grownBy (grown_of_below b1 none) (fun j o e => by cases e))
        have hfX : ¬ Tied lb A1 gX := fun e => e.elim (fun e => by have := L0.low; have := L0.ord; omega) (fun e => by have := (L0.lt _ e).2; omega)
        refine ⟨_, rfl, trivial, ?_⟩
        simp only [Act.put, Z1, Z2, Z3]
        refine Held.one 4 (by kernel_rfl) ?_
        refine Held.op_call 4 (some 27) 58 #[.slice A2 n2 c2] rfl rfl rfl rfl (enters_of Tryz.func58 (by kernel_rfl) rfl) (by simp [Act.eval]) (length_any _ _ _ w1 (by omega)) ?_
        rintro e w2 ⟨gY, rfl, hgY, rY, b2⟩
        have L2 := L1.grow (grown_of_below b2 none)
        have kk2 := kk1.trans (KeepsOthers.of_grownBy (grown_of_below b2 none) (fun j o e => by cases e))
        have rX := rX.below b2 rX.lt
        have hfY : ¬ Tied lb A1 gY := fun e => e.elim (fun e => by have := L1.low; have := L1.ord; omega) (fun e => by have := (L1.lt _ e).2; omega)
        refine ⟨_, rfl, trivial, ?_⟩
        simp only [Act.put, Z1, Z2, Z3]
        refine Held.one 5 (by kernel_rfl) ?_
        refine Held.op_build 5 (some 28) 89 27 2 (.slice none 0 0) 24 [.slice (some ⟨gX, 0, none⟩) 8 8, .slice (some ⟨gY, 0, none⟩) 8 8] rfl rfl rfl rfl Tryz.underlying89 info_bytes (by simp [Act.eval]) (by simp [Value.cells]) (by simp [Value.oneCell']) rfl (by omega) (by omega) ?_
        intro p w3 v3 b3
        have L3 := L2.grow (grown_of_below b3 none)
        have kk3 := kk2.trans (KeepsOthers.of_grownBy (grown_of_below b3 none) (fun j o e => by cases e))
        have rX := rX.below b3 rX.lt
        have rY := rY.below b3 rY.lt
        refine ⟨trivial, ?_⟩
        simp only [Act.put, Z1, Z2, Z3]
        have tX := TextsN.one (ints_of rX HX8.out hfX) (Nat.le_refl 8) (by simp [maxLen])
        have tY := TextsN.one (ints_of rY HY8.out hfY) (Nat.le_refl 8) (by simp [maxLen])
        refine Held.one 6 (by kernel_rfl) ?_
        refine op_append_list L3 6 (some 29) rfl rfl rfl rfl rfl (by omega) w3.heap.size (some ⟨p, 0, none⟩) 2 2 _ rfl v3 (by omega) (tX.append tY) ?_
        intro A4 c4 w4 L4 g4
        have kk4 := kk3.trans (KeepsOthers.of_grownBy g4 (fun j o e ho => L3.cells j o e ho))
        refine ⟨trivial, ?_⟩
        simp only [Act.put, Z1, Z2, Z3]
        refine Held.one 7 (by kernel_rfl) ?_
        refine Held.op_store_box 7 none 89 lb 89 _ (.slice A4 (4 + 2) c4) rfl rfl rfl rfl rfl rfl L4.cell size_list rfl rfl ?_
        intro w5 l5 g5
        have L5 := L4.store l5 g5
        have kk5 := kk4.trans (Held.others_of_grown L4.cell g5)
        refine ⟨trivial, ?_⟩
        simp only [Act.put]
        refine wpAnyH_done (by kernel_rfl) ?_ _
        exact ⟨rfl, A4, c4, _, _, _, _, _, _, _, L5, kk5, rfl⟩
      · refine Held.op_call 2 (some 25) 58 #[.slice A n c] rfl rfl rfl rfl (enters_of Tryz.func58 (by kernel_rfl) rfl) (by simp [Act.eval]) (length_any _ _ _ W.drew (by omega)) ?_
        rintro e w1 ⟨gX, rfl, hgX, rX, b1⟩
        have L1 := L0.grow (grown_of_below b1 none)
        have kk1 := kk0.trans (KeepsOthers.of_grownBy (grown_of_below b1 none) (fun j o e => by cases e))
        have hfX : ¬ Tied lb A1 gX := fun e => e.elim (fun e => by have := L0.low; have := L0.ord; omega) (fun e => by have := (L0.lt _ e).2; omega)
        refine ⟨_, rfl, trivial, ?_⟩
        simp only [Act.put, Z1, Z2, Z3]
        refine Held.two 0 4 (by kernel_rfl) ?_ ?_
        · refine Held.op_load 0 (some 23) 89 ⟨lb, 0, none⟩ (.slice A1 4 c1) rfl rfl rfl rfl rfl (Held.run_loadVar_cell _ _ _ _ (by kernel_rfl) (cell_of_one L1.cell)) ?_
          refine ⟨trivial, ?_⟩
          simp only [Act.put, Z1, Z2, Z3]
          refine Held.one 4 (by kernel_rfl) ?_
          refine Held.op_call 4 (some 27) 58 #[.slice A2 n2 c2] rfl rfl rfl rfl (enters_of Tryz.func58 (by kernel_rfl) rfl) (by simp [Act.eval]) (length_any _ _ _ w1 (by omega)) ?_
          rintro e w2 ⟨gY, rfl, hgY, rY, b2⟩
          have L2 := L1.grow (grown_of_below b2 none)
          have kk2 := kk1.trans (KeepsOthers.of_grownBy (grown_of_below b2 none) (fun j o e => by cases e))
          have rX := rX.below b2 rX.lt
          have hfY : ¬ Tied lb A1 gY := fun e => e.elim (fun e => by have := L1.low; have := L1.ord; omega) (fun e => by have := (L1.lt _ e).2; omega)
          refine ⟨_, rfl, trivial, ?_⟩
          simp only [Act.put, Z1, Z2, Z3]
          refine Held.one 5 (by kernel_rfl) ?_
          refine Held.op_build 5 (some 28) 89 27 2 (.slice none 0 0) 24 [.slice (some ⟨gX, 0, none⟩) 8 8, .slice (some ⟨gY, 0, none⟩) 8 8] rfl rfl rfl rfl Tryz.underlying89 info_bytes (by simp [Act.eval]) (by simp [Value.cells]) (by simp [Value.oneCell']) rfl (by omega) (by omega) ?_
          intro p w3 v3 b3
          have L3 := L2.grow (grown_of_below b3 none)
          have kk3 := kk2.trans (KeepsOthers.of_grownBy (grown_of_below b3 none) (fun j o e => by cases e))
          have rX := rX.below b3 rX.lt
          have rY := rY.below b3 rY.lt
          refine ⟨trivial, ?_⟩
          simp only [Act.put, Z1, Z2, Z3]
          have tX := TextsN.one (ints_of rX HX8.out hfX) (Nat.le_refl 8) (by simp [maxLen])
          have tY := TextsN.one (ints_of rY HY8.out hfY) (Nat.le_refl 8) (by simp [maxLen])
          refine Held.one 6 (by kernel_rfl) ?_
          refine op_append_list L3 6 (some 29) rfl rfl rfl rfl rfl (by omega) w3.heap.size (some ⟨p, 0, none⟩) 2 2 _ rfl v3 (by omega) (tX.append tY) ?_
          intro A4 c4 w4 L4 g4
          have kk4 := kk3.trans (KeepsOthers.of_grownBy g4 (fun j o e ho => L3.cells j o e ho))
          refine ⟨trivial, ?_⟩
          simp only [Act.put, Z1, Z2, Z3]
          refine Held.one 7 (by kernel_rfl) ?_
          refine Held.op_store_box 7 none 89 lb 89 _ (.slice A4 (4 + 2) c4) rfl rfl rfl rfl rfl rfl L4.cell size_list rfl rfl ?_
          intro w5 l5 g5
          have L5 := L4.store l5 g5
          have kk5 := kk4.trans (Held.others_of_grown L4.cell g5)
          refine ⟨trivial, ?_⟩
          simp only [Act.put]
          refine wpAnyH_done (by kernel_rfl) ?_ _
          exact ⟨rfl, A4, c4, _, _, _, _, _, _, _, L5, kk5, rfl⟩
        · refine Held.op_call 4 (some 27) 58 #[.slice A2 n2 c2] rfl rfl rfl rfl (enters_of Tryz.func58 (by kernel_rfl) rfl) (by simp [Act.eval]) (length_any _ _ _ w1 (by omega)) ?_
          rintro e w2 ⟨gY, rfl, hgY, rY, b2⟩
          have L2 := L1.grow (grown_of_below b2 none)
          have kk2 := kk1.trans (KeepsOthers.of_grownBy (grown_of_below b2 none) (fun j o e => by cases e))
          have rX := rX.below b2 rX.lt
          have hfY : ¬ Tied lb A1 gY := fun e => e.elim (fun e => by have := L1.low; have := L1.ord; omega) (fun e => by have := (L1.lt _ e).2; omega)
          refine ⟨_, rfl, trivial, ?_⟩
          simp only [Act.put, Z1, Z2, Z3]
          refine Held.two 0 5 (by kernel_rfl) ?_ ?_
          · refine Held.op_load 0 (some 23) 89 ⟨lb, 0, none⟩ (.slice A1 4 c1) rfl rfl rfl rfl rfl (Held.run_loadVar_cell _ _ _ _ (by kernel_rfl) (cell_of_one L2.cell)) ?_
            refine ⟨trivial, ?_⟩
            simp only [Act.put, Z1, Z2, Z3]
            refine Held.one 5 (by kernel_rfl) ?_
            refine Held.op_build 5 (some 28) 89 27 2 (.slice none 0 0) 24 [.slice (some ⟨gX, 0, none⟩) 8 8, .slice (some ⟨gY, 0, none⟩) 8 8] rfl rfl rfl rfl Tryz.underlying89 info_bytes (by simp [Act.eval]) (by simp [Value.cells]) (by simp [Value.oneCell']) rfl (by omega) (by omega) ?_
            intro p w3 v3 b3
            have L3 := L2.grow (grown_of_below b3 none)
            have kk3 := kk2.trans (KeepsOthers.of_grownBy (grown_of_below b3 none) (fun j o e => by cases e))
            have rX := rX.below b3 rX.lt
            have rY := rY.below b3 rY.lt
            refine ⟨trivial, ?_⟩
            simp only [Act.put, Z1, Z2, Z3]
            have tX := TextsN.one (ints_of rX HX8.out hfX) (Nat.le_refl 8) (by simp [maxLen])
            have tY := TextsN.one (ints_of rY HY8.out hfY) (Nat.le_refl 8) (by simp [maxLen])
            refine Held.one 6 (by kernel_rfl) ?_
            refine op_append_list L3 6 (some 29) rfl rfl rfl rfl rfl (by omega) w3.heap.size (some ⟨p, 0, none⟩) 2 2 _ rfl v3 (by omega) (tX.append tY) ?_
            intro A4 c4 w4 L4 g4
            have kk4 := kk3.trans (KeepsOthers.of_grownBy g4 (fun j o e ho => L3.cells j o e ho))
            refine ⟨trivial, ?_⟩
            simp only [Act.put, Z1, Z2, Z3]
            refine Held.one 7 (by kernel_rfl) ?_
            refine Held.op_store_box 7 none 89 lb 89 _ (.slice A4 (4 + 2) c4) rfl rfl rfl rfl rfl rfl L4.cell size_list rfl rfl ?_
            intro w5 l5 g5
            have L5 := L4.store l5 g5
            have kk5 := kk4.trans (Held.others_of_grown L4.cell g5)
            refine ⟨trivial, ?_⟩
            simp only [Act.put]
            refine wpAnyH_done (by kernel_rfl) ?_ _
            exact ⟨rfl, A4, c4, _, _, _, _, _, _, _, L5, kk5, rfl⟩
          · refine Held.op_build 5 (some 28) 89 27 2 (.slice none 0 0) 24 [.slice (some ⟨gX, 0, none⟩) 8 8, .slice (some ⟨gY, 0, none⟩) 8 8] rfl rfl rfl rfl Tryz.underlying89 info_bytes (by simp [Act.eval]) (by simp [Value.cells]) (by simp [Value.oneCell']) rfl (by omega) (by omega) ?_
            intro p w3 v3 b3
            have L3 := L2.grow (grown_of_below b3 none)
            have kk3 := kk2.trans (KeepsOthers.of_grownBy (grown_of_below b3 none) (fun j o e => by cases e))
            have rX := rX.below b3 rX.lt
            have rY := rY.below b3 rY.lt
            refine ⟨trivial, ?_⟩
            simp only [Act.put, Z1, Z2, Z3]
            refine Held.one 0 (by kernel_rfl) ?_
            refine Held.op_load 0 (some 23) 89 ⟨lb, 0, none⟩ (.slice A1 4 c1) rfl rfl rfl rfl rfl (Held.run_loadVar_cell _ _ _ _ (by kernel_rfl) (cell_of_one L3.cell)) ?_
            refine ⟨trivial, ?_⟩
            simp only [Act.put, Z1, Z2, Z3]
            have tX := TextsN.one (ints_of rX HX8.out hfX) (Nat.le_refl 8) (by simp [maxLen])
            have tY := TextsN.one (ints_of rY HY8.out hfY) (Nat.le_refl 8) (by simp [maxLen])
            refine Held.one 6 (by kernel_rfl) ?_
            refine op_append_list L3 6 (some 29) rfl rfl rfl rfl rfl (by omega) w3.heap.size (some ⟨p, 0, none⟩) 2 2 _ rfl v3 (by omega) (tX.append tY) ?_
            intro A4 c4 w4 L4 g4
            have kk4 := kk3.trans (KeepsOthers.of_grownBy g4 (fun j o e ho => L3.cells j o e ho))
            refine ⟨trivial, ?_⟩
            simp only [Act.put, Z1, Z2, Z3]
            refine Held.one 7 (by kernel_rfl) ?_
            refine Held.op_store_box 7 none 89 lb 89 _ (.slice A4 (4 + 2) c4) rfl rfl rfl rfl rfl rfl L4.cell size_list rfl rfl ?_
            intro w5 l5 g5
            have L5 := L4.store l5 g5
            have kk5 := kk4.trans (Held.others_of_grown L4.cell g5)
            refine ⟨trivial, ?_⟩
            simp only [Act.put]
            refine wpAnyH_done (by kernel_rfl) ?_ _
            exact ⟨rfl, A4, c4, _, _, _, _, _, _, _, L5, kk5, rfl⟩
    case rest =>
      rintro e a' W5 ⟨rfl, A4, c4, v23, v24, v25, v26, v27, v28, v29, M0', kk5, rfl⟩
      have dl5 := kk5.same _ _ hDl rfl
      have M0 := M0'.grow (grown_of_below (below_drewN (Below.refl W5.heap.size W5) 1) none)
      change Lst _ _ _ _ _ _ _ _ _ _ _ _ _ W5.drew at M0
      clear hL kk5 hDl M0'
      gi_wp2_with fail
      refine wpIn_mono (Q := fun e a' W8 => e = .normal ∧ ∃ v30 v31 v32 v33 v34, Row W8 gr 58 .u8 (aeTag key nonce xs ys) ∧ KeepsOthers W5 W8 ∧ Below w.heap.size w W8 ∧ a' = { tmps := #[.agg (arr .u8 key), .agg (arr .u8 nonce), .slice A n c, .slice A2 n2 c2, .pointer (some ⟨w.heap.size, 0, none⟩), .pointer (some ⟨gn, 0, none⟩), undef, undef, .pointer (some ⟨gr, 0, none⟩), .pointer (some ⟨lb, 0, none⟩), undef, undef, .slice A n c, .slice A2 n2 c2, .slice (some ⟨gp, 0, none⟩) 2 2, .func (.func 79) #[] #[.pointer (some ⟨gp + 1, 0, none⟩)], undef, undef, undef, undef, undef, undef, undef, v23, v24, v25, v26, v27, v28, v29, v30, v31, v32, v33, v34], defers := [{ target := .collected D, args := #[] }] }) ?r7 ?rest7
      case r7 =>
        refine Held.wpIn_region_heldR (r := none) (S := fun X => Row X w.heap.size 22 .u8 key ∧ Row X gn 45 .u8 nonce ∧ X.heap[lb]? = some (.cells #[.slice A4 (4 + 2) c4] 89 (0, 0))) rfl (by kernel_rfl) (by kernel_rfl) (fun a w h => by cases h.1) ?_
        change wpAnyH _ _ _ _ _ _ _ _ W5.drew
        have S0 : Row W5.drew w.heap.size 22 .u8 key ∧ Row W5.drew gn 45 .u8 nonce ∧ W5.drew.heap[lb]? = some (.cells #[.slice A4 (4 + 2) c4] 89 (0, 0)) := ⟨M0.rk, M0.rn, M0.cell⟩
        refine Held.take (v := .agg (arr .u8 key)) 0 (some 30) rfl rfl (by kernel_rfl) (by kernel_rfl) (by kernel_rfl) (fun _ _ _ h => by cases h.1) rfl (Held.y_load_Row (zs := key) rfl rfl Tryz.underlying22 size_32b HK.out (fun X hX => hX.1)) S0 ?_
        simp only [Act.put, Z1, Z2, Z3]
        refine Held.take (v := .agg (arr .u8 nonce)) 1 (some 31) rfl rfl (by kernel_rfl) (by kernel_rfl) (by kernel_rfl) (fun _ _ _ h => by cases h.1) rfl (Held.y_load_Row (zs := nonce) rfl rfl Tryz.underlying45 size_12b HN.out (fun X hX => hX.2.1)) S0 ?_
        simp only [Act.put, Z1, Z2, Z3]
        refine Held.take (v := .slice A4 (4 + 2) c4) 3 (some 33) rfl rfl (by kernel_rfl) (by kernel_rfl) (by kernel_rfl) (fun _ _ _ h => by cases h.1) rfl (Held.y_load rfl rfl (by kernel_rfl) (fun X hX => cell_of_one hX.2.2)) S0 ?_
        simp only [Act.put, Z1, Z2, Z3]
        refine Held.one 2 (by kernel_rfl) ?_
        refine Held.op_call 2 (some 32) 60 #[.agg (arr .u8 key), .agg (arr .u8 nonce)] rfl rfl rfl rfl (enters_of Tryz.func60 (by kernel_rfl) rfl) (by simp [Act.eval]) (once_any key nonce W5.drew HK.out hkb HN.out hnb (hT.below M0.below hT.lt)) ?_
        rintro e w6 ⟨rfl, b6⟩
        have M6 := M0.grow (grown_of_below b6 none)
        refine ⟨_, rfl, ⟨M6.rk, M6.rn, M6.cell⟩, ?_⟩
        simp only [Act.put, Z1, Z2, Z3]
        obtain ⟨vs, ow6, tx6⟩ := M6.own
        have vx := ownsRow_vals ow6 tx6.texts.one_cell
        refine Held.one 4 (by kernel_rfl) ?_
        refine Held.op_call 4 (some 34) 59 #[.agg (arr .u8 (macKey key nonce)), .slice A4 (4 + 2) c4] rfl rfl rfl rfl (enters_of Tryz.func59 (by kernel_rfl) rfl) (by simp [Act.eval]) (Po.tag_any (macKey key nonce) w6.heap.size A4 (4 + 2) c4 vs _ w6 (macKey_length _ _) (macKey_bytes _ _) vx tx6.texts (Nat.le_refl _) (by omega) (by rw [HFL.out]; exact HLE.out) (by rw [HFL.out]; exact HBT.out) (hP.below M6.below hP.lt)) ?_
        rw [HFL.out]
        rintro e w7 ⟨rfl, b7⟩
        have M7 := M6.grow (grown_of_below b7 none)
        refine ⟨_, rfl, ⟨M7.rk, M7.rn, M7.cell⟩, ?_⟩
        simp only [Act.put, Z1, Z2, Z3]
        refine Held.one 5 (by kernel_rfl) ?_
        refine Held.op_store_RowL 5 none 58 gr 58 .u8 _ (aeTag key nonce xs ys) rfl rfl rfl rfl rfl rfl M7.rr 16 info_16b (aeTag_length _ _ _ _) (by simp) (bs_wf (aeTag_bytes _ _ _ _)) ?_
        intro w8 r8 g8
        have hKn := M7.ord
        refine ⟨⟨M7.rk.grown g8 (by intro e; injection e with e; have := HG1.out; omega), M7.rn.grown g8 (by intro e; injection e with e; have := HG2.out; omega), (g8.block lb (Array.getElem?_eq_some_iff.1 M7.cell).1 (by intro e; injection e with e; omega)).trans M7.cell⟩, ?_⟩
        simp only [Act.put]
        refine wpAnyH_done (by kernel_rfl) ?_ _
        refine ⟨rfl, _, _, _, _, _, r8, ?_, ?_, rfl⟩
        · exact ((((show KeepsOthers W5 W5.drew from KeepsOthers.drew W5).trans (KeepsOthers.of_grownBy (grown_of_below b6 none) (fun j o e => by cases e))).trans (KeepsOthers.of_grownBy (grown_of_below b7 none) (fun j o e => by cases e))).trans (Held.others_of_grown M7.rr.2 g8))
        · exact M7.below.grown g8 M7.below.size (fun r e => by cases e; omega)
      case rest7 =>
        rintro e a' W8 ⟨rfl, v30, v31, v32, v33, v34, r8, kk8, b8, rfl⟩
        have dl8 := kk8.same _ _ dl5 rfl
        gi_wp2_with fail
        refine ⟨by simp, .inl ⟨_, _, rfl, run_takeDeferred dl8, ?_⟩⟩
        have hDr : gr ≠ D := by have := Z6.out; omega
        have r9 : Row (W8.putObj D (.deferred none)) gr 58 .u8 (aeTag key nonce xs ys) := ⟨r8.1, (World.putObj_heap_other hDr).trans r8.2⟩
        refine ⟨.agg (arr .u8 (aeTag key nonce xs ys)), results_Row rfl _ _ gr _ _ _ rfl r9 16 5 Tryz.underlying58 info_16b (aeTag_length _ _ _ _), rfl, ?_⟩
        exact b8.grown (grownBy_putObj' _ D _) b8.size (fun r e => by have := Z6.out; cases e; omega)
end Go.Proofs.YtjelacblnjbfgaaGreatDoor.Ae
namespace Go.Proofs.YtjelacblnjbfgaaGreatDoor.Cha
open Go.RowKit Go.Shelf Go.Proofs.YtjelacblnjbfgaaGreatDoor Mem Help Go.Proofs.YtjelacblnjbfgaaGreatDoor.Sum Cc Sha Go.Proofs.YtjelacblnjbfgaaGreatDoor.Range
attribute [local go_sem] Oper.semAt_some
attribute [local irreducible] wpList wpListIn
theorem info_k32 : (Tryz.prog.info? 22).map (·.size) = some 32 := by kernel_rfl
theorem info_n12 : (Tryz.prog.info? 45).map (·.size) = some 12 := by kernel_rfl
theorem blocks_any (key nonce : List Int) (ctr : Int) (w : World) (hkb : Bs key) (hnb : Bs nonce) :
    Calls Tryz.prog 56 #[.agg (arr .u8 key), .agg (arr .u8 nonce), .int .u32 ctr] w fun e w' => ∃ xk xn xc, e = .returned (.func (.func 77) #[] #[.pointer (some ⟨xc, 0, none⟩), .pointer (some ⟨xk, 0, none⟩), .pointer (some ⟨xn, 0, none⟩)]) ∧
      Row w' xk 22 .u8 key ∧ Row w' xn 45 .u8 nonce ∧ w'.heap[xc]? = some (.cells #[.int .u32 ctr] 57 (0, 0)) ∧ w.heap.size ≤ xk ∧ w.heap.size ≤ xn ∧ w.heap.size ≤ xc ∧ Below w.heap.size w w' := by
  go_enter Tryz.func56, Tryz.ntmps56
  go_wp2_with (first
    | (refine wpList_box_Row (w := w) rfl 22 _ rfl .u8 key rfl (bs_wf hkb) ?_; intro w1 r1 g1 z1)
    | (refine wpList_box_Row (w := w1) rfl 45 _ rfl .u8 nonce rfl (bs_wf hnb) ?_; intro w2 r2 g2 z2)
    | (refine Held.wpList_box_cell (w := w2) rfl 57 _ rfl (.int .u32 ctr) rfl rfl ?_; intro w3 h3 g3 z3))
  go_ret
  have s1 := g1.size
  have s2 := g2.size
  exact ⟨_, _, _, rfl, (r1.grown g2 (by simp)).grown g3 (by simp), r2.grown g3 (by simp), h3, Nat.le_refl _, by omega, by omega, (((Below.refl _ w).grown g1 (Nat.le_refl _) (by simp)).grown g2 (by omega) (by simp)).grown g3 (by omega) (by simp)⟩
theorem addI_succ (c : Int) (k : Nat) : addI (addI c (k : Int)) 1 = addI c ((k + 1 : Nat) : Int) := by unfold addI; omega
set_option maxRecDepth 100000 in
set_option maxHeartbeats 8000000 in
theorem blocks_stop (n xk xn xc : Nat) (S : Nat → Prop) (key nonce : List Int) (ctr : Int) (w : World) (h1 : Row w xk 22 .u8 key) (h2 : Row w xn 45 .u8 nonce) (h3 : w.cell? ⟨xc, 0, none⟩ = some (.int .u32 ctr)) (hS1 : ¬ S xk) (hS2 : ¬ S xn) (hS3 : ¬ S xc)
    (hk : key.length = 32) (hkb : Bs key) (hn : nonce.length = 12) (hnb : Bs nonce) (hc : R32 ctr) (ht0 : Tab w 1 sigma) (hg0 : ¬ S 1) :
    SeqStop Fence.wide n Tryz.prog 77 #[.pointer (some ⟨xc, 0, none⟩), .pointer (some ⟨xk, 0, none⟩), .pointer (some ⟨xn, 0, none⟩)] (fun x => #[.agg (arr .u8 x)]) (Only S) (fun k => some (Cc.block key (addI ctr ((k : Nat) : Int)) nonce)) w := by
  intro l J Jx N W hW hJ hJx hN hY h0
  have k1 := h1.below hW h1.lt
  have k2 := h2.below hW h2.lt
  have k3 := (hW.cell (p := ⟨xc, 0, none⟩) (World.block_lt_of_cell? w _ h3)).trans h3
  have u0 := ht0.below hW ht0.lt
  have HK := Lib.hid hk
  have HN := Lib.hid hn
  have hc0 : addI ctr ((0 : Nat) : Int) = ctr := by unfold R32 at hc; unfold addI; omega
  clear h1 h2 h3 ht0 hW hk hn
  refine callsIn_of_wp Tryz.func77 rfl trivial ?_ rfl
  simp only [Tryz.ntmps77, List.size_toArray, List.length_cons, List.length_nil, Nat.reduceAdd, Nat.reduceSub, Array.replicate_succ, Array.replicate_zero, List.push_toArray, List.append_toArray, List.nil_append, List.cons_append]
  gi_wp2_with fail
  gi_loopw [5] (fun v wr => ∃ k : Nat, v = .int .u32 (addI ctr (k : Int)) ∧ J k wr ∧ Only S W wr) (fun v wr => leastOf fun m => ∃ k : Nat, m = N - k ∧ v = .int .u32 (addI ctr (k : Int)) ∧ J k wr ∧ Only S W wr)
  case atStart => exact ⟨0, by rw [hc0], h0, Only.refl _ _⟩
  case round =>
    obtain ⟨k, hm, rfl, Jk, ok⟩ := (leastOf_spec (p := fun m => ∃ k : Nat, m = N - k ∧ u5 = .int .u32 (addI ctr (k : Int)) ∧ J k wr ∧ Only S W wr) (by obtain ⟨k, h⟩ := hrel; exact ⟨_, k, rfl, h⟩)).1
    have HM := Lib.hid hm
    clear hrel hm
    have q1 := ok.row hS1 k1
    have q2 := ok.row hS2 k2
    have hT := u0.only ok hg0
    gi_wp2_with (first
      | (refine wpListIn_load_Row (w := wr) rfl 22 _ rfl xk rfl 22 .u8 _ q1 32 5 Tryz.underlying22 info_k32 HK.out ?_)
      | (refine wpListIn_load_Row (w := wr) rfl 45 _ rfl xn rfl 45 .u8 _ q2 12 5 Tryz.underlying45 info_n12 HN.out ?_))
    refine ⟨trivial, fun h => (by cases h), ?_⟩
    refine (callsIn_wide.2 (block_any key nonce (addI ctr (k : Int)) wr HK.out hkb HN.out hnb (r32_add _ _) hT)).mono ?_
    rintro e W3 ⟨rfl, b3⟩
    have J3 := hJ k wr W3 none Jk (grown_of_below b3 none) (fun r e => by cases e)
    have o3 : Only S wr W3 := Only.of_below b3
    obtain ⟨fn, tmps, assign, body, hy, hR⟩ := hY k _ W3 J3 rfl
    gi_wp2_with fail
    refine ⟨fun h => (by cases h), ?_⟩
    refine hR.mono ?_
    rintro e W4 (⟨rfl, J4, o4⟩ | ⟨rfl, Jx4⟩)
    · have hw5 : (addI ctr (k : Int) + 1) % 4294967296 = addI ctr ((k + 1 : Nat) : Int) := addI_succ ctr k
      have o5 := (ok.trans o3).trans o4
      have hkN := hN k wr Jk
      have HL := Lib.hid ((leastOf_spec (p := fun m => ∃ k' : Nat, m = N - k' ∧ Value.int .u32 (addI ctr ((k + 1 : Nat) : Int)) = .int .u32 (addI ctr (k' : Int)) ∧ J k' W4 ∧ Only S W W4) ⟨_, k + 1, rfl, rfl, J4, o5⟩).2 (N - (k + 1)) ⟨k + 1, rfl, rfl, J4, o5⟩)
      gi_wp2_with fail
      go_roundw
      case rel => exact ⟨k + 1, by first | rfl | rw [hw5], J4, o5⟩
      case measure =>
        rw [hw5]
        exact Nat.lt_of_le_of_lt HL.out (by rw [HM.out]; omega)
    · gi_wp2_with fail
      go_end0
      exact ⟨⟨_, rfl⟩, .inr ⟨_, Jx4⟩⟩
end Go.Proofs.YtjelacblnjbfgaaGreatDoor.Cha
