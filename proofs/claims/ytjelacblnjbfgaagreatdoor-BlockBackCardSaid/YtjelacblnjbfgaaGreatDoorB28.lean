/-
  The functions Seal and Open of package aead by their contracts.
  Package block's Seal and Open, by their contracts.
  The first line of stage 10's laws, by its contract.
  The first line of stage 10's laws, by its contract, and where the four tables lie.
-/
import Derived.Test.YtjelacblnjbfgaaGreatDoorB22
import Derived.Test.YtjelacblnjbfgaaGreatDoorB26
import Derived.Test.YtjelacblnjbfgaaGreatDoorB27
import Derived.Test.YtjelacblnjbfgaaGreatDoorB5
import Derived.Test.YtjelacblnjbfgaaGreatDoorB21
import Derived.Test.YtjelacblnjbfgaaGreatDoorB20
import Derived.Test.YtjelacblnjbfgaaGreatDoorB13
set_option linter.unusedVariables false
namespace Go.Proofs.YtjelacblnjbfgaaGreatDoor.Ae
open Go.RowKit Go.Shelf Go.Proofs.YtjelacblnjbfgaaGreatDoor Mem Help Go.Proofs.YtjelacblnjbfgaaGreatDoor.Sum Po
attribute [local irreducible] wpList wpListIn
def Laid (B : Nat) (w : World) : Prop := Sha.Tab w 1 Cc.sigma ∧ TabK w 0 .u8 keptI ∧ 1 < B ∧ 0 < B
theorem Laid.below {B : Nat} {w w' : World} (h : Laid B w) (hb : Below B w w') : Laid B w' := ⟨h.1.below hb h.2.2.1, h.2.1.below hb h.2.2.2, h.2.2⟩
theorem Laid.more {B B' : Nat} {w : World} (h : Laid B w) (hB : B ≤ B') : Laid B' w := ⟨h.1, h.2.1, Nat.lt_of_lt_of_le h.2.2.1 hB, Nat.lt_of_lt_of_le h.2.2.2 hB⟩
theorem laid_of_two {w : World} (h1 : Sha.Tab w 1 Cc.sigma) (h2 : TabK w 0 .u8 keptI) : Laid w.heap.size w := ⟨h1, h2, h1.lt, h2.lt⟩
theorem equal_same (B B' : Nat) (A A' : Option Addr) (n n' c c' : Nat) (zs zs' : List Int) (w : World) (h : Ints w .u8 B A n zs) (h' : Ints w .u8 B' A' n' zs') (hn : n ≤ 17592186044416) (hn' : n' ≤ 17592186044416) (e : zs = zs') :
    Calls Tryz.prog 46 #[.slice A n c, .slice A' n' c'] w fun e w' => e = .returned (.int .u64 1) ∧ Below w.heap.size w w' :=
  (Ct.equal_any B B' A A' n n' c c' zs zs' w h h' hn hn').mono fun _ _ ⟨h1, h2⟩ => ⟨by rw [h1, Ct.eqI, if_pos e], h2.below _⟩
theorem equal_not (B B' : Nat) (A A' : Option Addr) (n n' c c' : Nat) (zs zs' : List Int) (w : World) (h : Ints w .u8 B A n zs) (h' : Ints w .u8 B' A' n' zs') (hn : n ≤ 17592186044416) (hn' : n' ≤ 17592186044416) (e : zs ≠ zs') :
    Calls Tryz.prog 46 #[.slice A n c, .slice A' n' c'] w fun e w' => e = .returned (.int .u64 0) ∧ Below w.heap.size w w' :=
  (Ct.equal_any B B' A A' n n' c c' zs zs' w h h' hn hn').mono fun _ _ ⟨h1, h2⟩ => ⟨by rw [h1, Ct.eqI, if_neg e], h2.below _⟩
set_option maxRecDepth 100000 in
set_option maxHeartbeats 4000000 in
theorem seal_any (key nonce : List Int) (B0 B : Nat) (A : Option Addr) (n c : Nat) (xs : List Int) (B2 : Nat) (A2 : Option Addr) (n2 c2 : Nat) (ys : List Int) (w : World) (hL : Laid B0 w) (hB0 : B0 ≤ w.heap.size) (hk : key.length = 32) (hkb : Bs key) (hnl : nonce.length = 12) (hnb : Bs nonce)
    (h : Arg w B A n c xs) (hn : n ≤ 65536) (h2 : Arg w B2 A2 n2 c2 ys) (hn2 : n2 ≤ 65536) :
    Calls Tryz.prog 14 #[.agg (arr .u8 key), .agg (arr .u8 nonce), .slice A n c, .slice A2 n2 c2] w fun e w' => ∃ A' m c', e = .returned (.tuple #[.slice A' m c', .int .i64 0]) ∧ Hid ((sealed key nonce xs ys).length = m) ∧ Mem.Own w' w.heap.size 5 .u8 (.slice A' m c') (sealed key nonce xs ys) ∧ Below w.heap.size w w' := by
  have h1' : ¬ (65536 : Int) < (n : Int) := by omega
  have h2' : ¬ (65536 : Int) < (n2 : Int) := by omega
  have HK := Lib.hid hk
  have HN := Lib.hid hnl
  have HY := Lib.hid h2.len
  clear hk hnl
  go_enter Tryz.func14, Tryz.ntmps14
  go_wp2_with (first
    | (refine wpList_box_Row (w := w) rfl 22 _ rfl .u8 key rfl (bs_wf hkb) ?_; intro w1 r1 g1 z1)
    | (refine wpList_box_Row (w := w1) rfl 45 _ rfl .u8 nonce rfl (bs_wf hnb) ?_; intro w2 r2 g2 z2; have r12 := r1.grown g2 (by simp))
    | (refine wpList_load_Row (w := w2) rfl 22 _ rfl w.heap.size rfl 22 .u8 _ r12 32 5 Tryz.underlying22 size_32b HK.out ?_)
    | (refine wpList_load_Row (w := w2) rfl 45 _ rfl w1.heap.size rfl 45 .u8 _ r2 12 5 Tryz.underlying45 size_12b HN.out ?_))
  obtain ⟨gn, hgn⟩ : ∃ g, w1.heap.size = g := ⟨_, rfl⟩
  have hg0 : w.heap.size < gn := by have := r1.lt; omega
  have b2 : Below w.heap.size w w2 := ((Below.refl _ w).grown g1 (Nat.le_refl _) (by simp)).grown g2 g1.size (by simp)
  rw [hgn] at r2 ⊢
  have l2 := r2.lt
  clear hgn r1 g1 g2 z1 z2 w1
  refine (Cha.xor_any key nonce 1 B2 A2 n2 c2 ys w2 (h2.ints.below (b2.mono h2.2.1)) (Nat.le_trans h2.2.1 b2.size) h2.2.2.2.1 (by omega) HK.out hkb HN.out hnb ⟨by omega, by omega⟩ (hL.below (b2.mono hB0)).1).mono ?_
  rintro e w3 ⟨A3, c3, rfl, hc3, hcm3, o3, hb3⟩
  have k3 := r12.below hb3 r12.lt
  have n3 := r2.below hb3 r2.lt
  have b3 := b2.trans (hb3.mono b2.size)
  have s3 := hb3.size
  have HXL := Lib.hid (show (Cc.xors key nonce 1 ys).length = n2 by rw [Cc.xors_length, HY.out])
  have hss : sealed key nonce xs ys = Cc.xors key nonce 1 ys ++ aeTag key nonce xs (Cc.xors key nonce 1 ys) := rfl
  have HSS := Lib.hid hss
  clear hss r12 r2 b2 hb3
  obtain ⟨zs, hzs⟩ : ∃ zs, Cc.xors key nonce 1 ys = zs := ⟨_, rfl⟩
  rw [hzs] at o3 HXL HSS
  clear hzs
  have i3 : Ints w3 .u8 w3.heap.size A3 n2 zs := by
    obtain ⟨_, _, ev, _, _, i⟩ := o3.form
    rw [HXL.out] at ev i
    cases ev
    exact i
  go_wp2_with (first
    | (refine wpList_load_Row (w := w3) rfl 22 _ rfl w.heap.size rfl 22 .u8 _ k3 32 5 Tryz.underlying22 size_32b HK.out ?_)
    | (refine wpList_load_Row (w := w3) rfl 45 _ rfl gn rfl 45 .u8 _ n3 12 5 Tryz.underlying45 size_12b HN.out ?_))
  refine (tagof_any key nonce B A n c xs w3.heap.size A3 n2 c3 zs w3 HK.out hkb HN.out hnb (h.ints.below (b3.mono h.2.1)) (Nat.le_trans h.2.1 b3.size) h.2.2.2.1 h.2.2.2.2 (by omega) i3 (Nat.le_refl _) hc3 (by unfold maxLen; omega) (by omega) (hL.below (b3.mono hB0)).1 (hL.below (b3.mono hB0)).2.1).mono ?_
  rintro e w4 ⟨rfl, hb4⟩
  have o4 := o3.below hb4
  have b4 := b3.trans (hb4.mono b3.size)
  have s4 := Nat.le_trans s3 hb4.size
  have hw2 : w.heap.size ≤ w2.heap.size := by omega
  clear k3 n3 b3 s3 hb4 o3 i3
  have HTL := Lib.hid (aeTag_length key nonce xs zs)
  have HTB := Lib.hid (aeTag_bytes key nonce xs zs)
  obtain ⟨T, hT⟩ : ∃ T, aeTag key nonce xs zs = T := ⟨_, rfl⟩
  rw [hT] at HTL HTB HSS ⊢
  clear hT
  go_wp2_with (first
    | (refine wpList_alloc_Row (w := w4) rfl 58 rfl .u8 16 zero_16b ?_; intro w5 r5 g5 z5; have o5 := o4.kept g5 (by cases (Value.slice A3 n2 c3).ownBlock <;> simp))
    | (refine wpList_store_RowTo (w := w5) rfl 58 _ _ rfl w4.heap.size rfl 58 .u8 _ T rfl r5 16 info_16b HTL.out (by simp) (bs_wf HTB.out) ?_; intro w6 r6 g6 z6; have hsl : (Instr.sliceAt 58 (.pointer (some ⟨w4.heap.size, 0, none⟩)) none none none).run Tryz.prog w6 = .ok (.slice (some ⟨w4.heap.size, 0, none⟩) 16 16) w6 := run_slice_arr_all (P := Tryz.prog) _ 5 16 _ w6 Tryz.underlying58 (by kernel_rfl) (by omega);
        have o6 := o5.kept g6 (.inr (fun e => by have := (o4.2.lt _ e).2; omega));
        have i6 : Ints w6 .u8 w6.heap.size (some ⟨w4.heap.size, 0, none⟩) 16 T := by
          have := r6.ints (n := 16) (by rw [HTL.out]; omega)
          rwa [List.take_of_length_le (by rw [HTL.out]; omega)] at this)
    | (at_builtin; refine wpList_append_ints w6 rfl _ _ 27 rfl w2.heap.size 5 .u8 1 Tryz.underlying27 info_u8 (.slice A3 n2 c3) zs rfl o6 w6.heap.size (some ⟨w4.heap.size, 0, none⟩) 16 16 T rfl i6 (by rw [HXL.out]; omega) (by omega) (by have := g5.size; have := g6.size; omega) ?_; intro v7 w7 o7 g7 t7))
  have s5 := g5.size
  have s6 := g6.size
  have b7 : Below w.heap.size w w7 := (((b4.grown g5 b4.size (by simp)).grown g6 (Nat.le_trans b4.size s5) (fun r e => by have := b4.size; cases e; omega))).grown g7 (Nat.le_trans b4.size (Nat.le_trans s5 s6)) (fun r e => by have := (o6.2.lt r e).1; omega)
  clear r5 g5 g6 g7 o4 o5 o6 r6 i6 hsl t7 z5 z6
  obtain ⟨A7, c7, rfl, _, _, _⟩ := o7.form
  obtain ⟨m, hm⟩ : ∃ m, (zs ++ T).length = m := ⟨_, rfl⟩
  rw [hm] at o7 ⊢
  have HM := Lib.hid hm
  clear hm
  go_wp2_with fail
  go_ret2
  rw [← HSS.out] at o7 HM
  exact ⟨A7, m, c7, rfl, HM, o7.less hw2, b7⟩
set_option maxRecDepth 100000 in
set_option maxHeartbeats 8000000 in
theorem open_short (key nonce : List Int) (B0 B : Nat) (A : Option Addr) (n c : Nat) (xs : List Int) (B2 : Nat) (A2 : Option Addr) (n2 c2 : Nat) (ys : List Int) (w : World) (hL : Laid B0 w) (hB0 : B0 ≤ w.heap.size) (hk : key.length = 32) (hkb : Bs key) (hnl : nonce.length = 12) (hnb : Bs nonce)
    (h : Arg w B A n c xs) (hn : n ≤ 65536) (h2 : Arg w B2 A2 n2 c2 ys) (hn2 : n2 < 16) :
    Calls Tryz.prog 25 #[.agg (arr .u8 key), .agg (arr .u8 nonce), .slice A n c, .slice A2 n2 c2] w fun e w' => e = .returned (.tuple #[.slice none 0 0, .int .i64 3]) ∧ Below w.heap.size w w' := by
  · have h1' : ¬ (65536 : Int) < (n : Int) := by omega
    have h2' : ¬ (65552 : Int) < (n2 : Int) := by omega
    have h3' : (n2 : Int) < 16 := by omega
    go_enter Tryz.func25, Tryz.ntmps25
    go_wp2_with (first
      | (refine wpList_box_Row (w := w) rfl 22 _ rfl .u8 key rfl (bs_wf hkb) ?_; intro w1 r1 g1 z1)
      | (refine wpList_box_Row (w := w1) rfl 45 _ rfl .u8 nonce rfl (bs_wf hnb) ?_; intro w2 r2 g2 z2))
    have b2 : Below w.heap.size w w2 := ((Below.refl _ w).grown g1 (Nat.le_refl _) (by simp)).grown g2 g1.size (by simp)
    go_ret2
    exact ⟨rfl, b2⟩
set_option maxRecDepth 100000 in
set_option maxHeartbeats 8000000 in
theorem open_any (key nonce : List Int) (B0 B : Nat) (A : Option Addr) (n c : Nat) (xs : List Int) (B2 : Nat) (A2 : Option Addr) (n2 c2 q : Nat) (ys : List Int) (w : World) (hL : Laid B0 w) (hB0 : B0 ≤ w.heap.size) (hk : key.length = 32) (hkb : Bs key) (hnl : nonce.length = 12) (hnb : Bs nonce)
    (h : Arg w B A n c xs) (hn : n ≤ 65536) (h2 : Arg w B2 A2 n2 c2 ys) (hq : n2 = q + 16) (hn2 : q ≤ 65536) :
    Calls Tryz.prog 25 #[.agg (arr .u8 key), .agg (arr .u8 nonce), .slice A n c, .slice A2 n2 c2] w fun e w' => Below w.heap.size w w' ∧
      ((opened key nonce xs ys = none ∧ e = .returned (.tuple #[.slice none 0 0, .int .i64 6])) ∨
        (∃ p A' c', opened key nonce xs ys = some p ∧ p.length = q ∧ e = .returned (.tuple #[.slice A' q c', .int .i64 0]) ∧ Mem.Own w' w.heap.size 5 .u8 (.slice A' q c') p)) := by
  have HOP : Hid (opened key nonce xs ys = if aeTag key nonce xs (ys.take q) = ys.drop q then some (Cc.xors key nonce 1 (ys.take q)) else none) := Lib.hid (by
    rw [opened, show ys.length - 16 = q by rw [h2.len]; omega])
  have h1' : ¬ (65536 : Int) < (n : Int) := by omega
  have h2' : ¬ (65552 : Int) < (n2 : Int) := by omega
  have h3' : ¬ (n2 : Int) < 16 := by omega
  have hsub0 : (n2 : Int) - 16 = (q : Int) := by omega
  have HK := Lib.hid hk
  have HN := Lib.hid hnl
  have HQ := Lib.hid hq
  have hqc : q ≤ c2 := by have := h2.2.2.2.1; omega
  have hqn : q ≤ n2 := by omega
  have hc2 := h2.2.2.2.1
  have hf := h2.2.2.1
  have hB := h.2.1
  have hB2 := h2.2.1
  have hfr := h2.ints.front hqn
  have hslf := fun W : World => run_front (P := Tryz.prog) (n := n2) (cap := c2) (h := q) Tryz.underlying27 size_1b hf hqc W
  obtain ⟨A9, hslb, _, hbk⟩ := run_back (P := Tryz.prog) Tryz.underlying27 size_1b hf hc2 hqn h2.ints
  rw [show n2 - q = 16 by omega] at hslb hbk
  have HYQ := Lib.hid (show (ys.take q).length = q from hfr.1)
  clear hk hnl hq
  go_enter Tryz.func25, Tryz.ntmps25
  go_wp2_with (first
    | (refine wpList_box_Row (w := w) rfl 22 _ rfl .u8 key rfl (bs_wf hkb) ?_; intro w1 r1 g1 z1)
    | (refine wpList_box_Row (w := w1) rfl 45 _ rfl .u8 nonce rfl (bs_wf hnb) ?_; intro w2 r2 g2 z2; have r12 := r1.grown g2 (by simp)))
  obtain ⟨gn, hgn⟩ : ∃ g, w1.heap.size = g := ⟨_, rfl⟩
  have hg0 : w.heap.size < gn := by have := r1.lt; omega
  have b2 : Below w.heap.size w w2 := ((Below.refl _ w).grown g1 (Nat.le_refl _) (by simp)).grown g2 g1.size (by simp)
  rw [hgn] at r2 ⊢
  have l2 := r2.lt
  have l1 := r12.lt
  clear hgn r1 g1 g2 z1 z2 w1
  refine wp_region_held (S := fun W => Below w2.heap.size w2 W) (by kernel_rfl) ?_
  change wpAnyH _ _ _ _ _ _ _ _ w2.drew
  have c0 := (Below.refl w2.heap.size w2).drew
  have d0 := b2.drew
  refine Held.tk (v := .agg (arr .u8 key)) 0 (some 26) rfl (Held.y_load_Row (zs := key) rfl rfl Tryz.underlying22 size_32b HK.out (fun W hW => r12.below hW r12.lt)) c0 ?_
  simp only [Act.put, Z1, Z2, Z3]
  refine Held.tk (v := .agg (arr .u8 nonce)) 1 (some 27) rfl (Held.y_load_Row (zs := nonce) rfl rfl Tryz.underlying45 size_12b HN.out (fun W hW => r2.below hW r2.lt)) c0 ?_
  simp only [Act.put, Z1, Z2, Z3]
  refine Held.tk (v := .slice A n c) 2 (some 28) rfl (Held.y_move rfl rfl) c0 ?_
  simp only [Act.put, Z1, Z2, Z3]
  refine Held.tk (v := .slice A2 n2 c2) 3 (some 29) rfl (Held.y_move rfl rfl) c0 ?_
  simp only [Act.put, Z1, Z2, Z3]
  refine Held.tk (v := .int .i64 (q : Int)) 4 (some 30) rfl (Held.y_move rfl rfl) c0 ?_
  simp only [Act.put, Z1, Z2, Z3]
  refine Held.tk (v := .slice A2 q c2) 5 (some 31) rfl (Held.y_slice rfl hslf) c0 ?_
  simp only [Act.put, Z1, Z2, Z3]
  have HTL := Lib.hid (aeTag_length key nonce xs (ys.take q))
  have HTB := Lib.hid (aeTag_bytes key nonce xs (ys.take q))
  refine Held.two 6 7 (by kernel_rfl) ?_ ?_
  · refine Held.op_call 6 (some 32) 35 #[.agg (arr .u8 key), .agg (arr .u8 nonce), .slice A n c, .slice A2 q c2] rfl rfl rfl rfl (enters_of Tryz.func35 (by kernel_rfl) rfl) (by simp [Act.eval]) (tagof_any key nonce B A n c xs B2 A2 q c2 (ys.take q) w2.drew HK.out hkb HN.out hnb (h.ints.below (d0.mono hB)) (Nat.le_trans hB d0.size) h.2.2.2.1 h.2.2.2.2 (by omega) (hfr.below (d0.mono hB2)) (Nat.le_trans hB2 d0.size) hqc h2.2.2.2.2 (by omega) (hL.below (d0.mono hB0)).1 (hL.below (d0.mono hB0)).2.1) ?_
    rintro e wA ⟨rfl, hbwA⟩
    have cA := c0.trans (hbwA.mono c0.size)
    have dA := d0.trans (hbwA.mono d0.size)
    refine ⟨_, rfl, cA, ?_⟩
    simp only [Act.put, Z1, Z2, Z3]
    refine Held.one 7 (by kernel_rfl) ?_
    refine Held.op_alloc_Row 7 (some 11) 58 .u8 16 rfl rfl rfl rfl zero_16b ?_
    intro gt wB ra hbwB hgt
    have cB := cA.trans (hbwB.mono cA.size)
    have dB := dA.trans (hbwB.mono dA.size)
    have hgz : w2.heap.size ≤ gt := Nat.le_trans cA.size hgt.out
    refine ⟨cB, ?_⟩
    simp only [Act.put, Z1, Z2, Z3]
    refine Held.one 8 (by kernel_rfl) ?_
    refine Held.op_store_RowL 8 none 58 gt 58 .u8 _ (aeTag key nonce xs (ys.take q)) rfl rfl rfl rfl rfl rfl ra 16 info_16b HTL.out (by simp) (bs_wf HTB.out) ?_
    intro wz rz gz
    have cz := cB.grown gz cB.size (fun r e => by cases e; exact hgz)
    have dz := dB.grown gz dB.size (fun r e => by cases e; exact Nat.le_trans b2.size hgz)
    clear cA dA cB dB gz ra
    refine ⟨cz, ?_⟩
    simp only [Act.put]
    refine wpAnyH_done (by kernel_rfl) ?_ _
    have kz := r12.below cz r12.lt
    have nz := r2.below cz r2.lt
    have fz := hfr.below (dz.mono hB2)
    have bz := hbk.below (dz.mono hB2)
    have hz := Nat.le_trans b2.size cz.size
    clear cz hgz hgt
    obtain ⟨T, hT⟩ : ∃ T, aeTag key nonce xs (ys.take q) = T := ⟨_, rfl⟩
    rw [hT] at HTL HTB HOP rz
    clear hT
    have iz : Ints wz .u8 wz.heap.size (some ⟨gt, 0, none⟩) 16 T := by
      have := rz.ints (n := 16) (by rw [HTL.out]; omega)
      rwa [List.take_of_length_le (by rw [HTL.out]; omega)] at this
    have hsT : ∀ W, (Instr.sliceAt 58 (.pointer (some ⟨gt, 0, none⟩)) none none none).run Tryz.prog W = .ok (.slice (some ⟨gt, 0, none⟩) 16 16) W := fun W => run_slice_arr_all (P := Tryz.prog) _ 5 16 _ W Tryz.underlying58 (by kernel_rfl) (by omega)
    go_wp2_with fail
    refine wp_region_held (S := fun W => Below wz.heap.size wz W) (by kernel_rfl) ?_
    change wpAnyH _ _ _ _ _ _ _ _ wz.drew
    have c1 := (Below.refl wz.heap.size wz).drew
    refine Held.tk (v := .slice (some ⟨gt, 0, none⟩) 16 16) 0 (some 33) rfl (Held.y_slice rfl hsT) c1 ?_
    simp only [Act.put, Z1, Z2, Z3]
    refine Held.tk (v := .slice A2 n2 c2) 1 (some 34) rfl (Held.y_move rfl rfl) c1 ?_
    simp only [Act.put, Z1, Z2, Z3]
    refine Held.tk (v := .int .i64 (q : Int)) 2 (some 35) rfl (Held.y_move rfl rfl) c1 ?_
    simp only [Act.put, Z1, Z2, Z3]
    refine Held.tk (v := .slice A9 16 (c2 - q)) 3 (some 36) rfl (Held.y_slice rfl hslb) c1 ?_
    simp only [Act.put, Z1, Z2, Z3]
    refine Held.one 4 (by kernel_rfl) ?_
    by_cases heq : T = ys.drop q
    · refine Held.op_call 4 (some 37) 46 #[.slice (some ⟨gt, 0, none⟩) 16 16, .slice A9 16 (c2 - q)] rfl rfl rfl rfl (enters_of Tryz.func46 (by kernel_rfl) rfl) (by simp [Act.eval]) (equal_same wz.heap.size B2 (some ⟨gt, 0, none⟩) A9 16 16 16 (c2 - q) T (ys.drop q) wz.drew (iz.below c1) (bz.below (c1.mono (Nat.le_trans hB2 dz.size))) (by omega) (by omega) heq) ?_
      rintro e we ⟨rfl, hbe⟩
      have ce := c1.trans (hbe.mono c1.size)
      have de := dz.drew.trans (hbe.mono dz.drew.size)
      refine ⟨_, rfl, ce, ?_⟩
      simp only [Act.put, Z1, Z2, Z3]
      refine Held.tk (v := .bool false) 5 (some 38) rfl (Held.y_eqn rfl rfl rfl (by omega)) ce ?_
      simp only [Act.put, Z1, Z2, Z3]
      refine wpAnyH_done (by kernel_rfl) ?_ _
      have ho := HOP.out
      rw [if_pos heq] at ho
      have HO := Lib.hid ho
      clear ho heq
      go_wp2_with fail
      refine wp_region_held (S := fun W => Below wz.heap.size wz W) (by kernel_rfl) ?_
      change wpAnyH _ _ _ _ _ _ _ _ we.drew
      have y2 := ce.drew
      have d2 := de.drew
      refine Held.tk (v := .agg (arr .u8 key)) 0 (some 39) rfl (Held.y_load_Row (zs := key) rfl rfl Tryz.underlying22 size_32b HK.out (fun W hW => kz.below hW kz.lt)) y2 ?_
      simp only [Act.put, Z1, Z2, Z3]
      refine Held.tk (v := .agg (arr .u8 nonce)) 1 (some 40) rfl (Held.y_load_Row (zs := nonce) rfl rfl Tryz.underlying45 size_12b HN.out (fun W hW => nz.below hW nz.lt)) y2 ?_
      simp only [Act.put, Z1, Z2, Z3]
      refine Held.tk (v := .slice A2 n2 c2) 2 (some 41) rfl (Held.y_move rfl rfl) y2 ?_
      simp only [Act.put, Z1, Z2, Z3]
      refine Held.tk (v := .int .i64 (q : Int)) 3 (some 42) rfl (Held.y_move rfl rfl) y2 ?_
      simp only [Act.put, Z1, Z2, Z3]
      refine Held.tk (v := .slice A2 q c2) 4 (some 43) rfl (Held.y_slice rfl hslf) y2 ?_
      simp only [Act.put, Z1, Z2, Z3]
      refine Held.one 5 (by kernel_rfl) ?_
      refine Held.op_call 5 (some 44) 34 #[.agg (arr .u8 key), .agg (arr .u8 nonce), .int .u32 1, .slice A2 q c2] rfl rfl rfl rfl (enters_of Tryz.func34 (by kernel_rfl) rfl) (by simp [Act.eval]) (Cha.xor_any key nonce 1 B2 A2 q c2 (ys.take q) we.drew (hfr.below (d2.mono hB2)) (Nat.le_trans hB2 d2.size) hqc (by omega) HK.out hkb HN.out hnb ⟨by omega, by omega⟩ (hL.below (d2.mono hB0)).1) ?_
      rintro e wy ⟨Ay, cy, rfl, hcy, hcmy, oy, hby⟩
      have c3 := y2.trans (hby.mono y2.size)
      have d3 := d2.trans (hby.mono d2.size)
      refine ⟨_, rfl, c3, ?_⟩
      simp only [Act.put, Z1, Z2, Z3]
      refine Held.tk (v := .slice Ay q cy) 6 (some 8) rfl (Held.y_assign rfl rfl) c3 ?_
      simp only [Act.put, Z1, Z2, Z3]
      refine Held.tk (v := .int .i64 0) 7 (some 9) rfl (Held.y_assign rfl rfl) c3 ?_
      simp only [Act.put, Z1, Z2, Z3]
      refine wpAnyH_done (by kernel_rfl) ?_ _
      go_wp2_with fail
      go_ret2
      exact ⟨d3, .inr ⟨_, Ay, cy, HO.out, by rw [Cc.xors_length, HYQ.out], rfl, oy.less d2.size⟩⟩
    · refine Held.op_call 4 (some 37) 46 #[.slice (some ⟨gt, 0, none⟩) 16 16, .slice A9 16 (c2 - q)] rfl rfl rfl rfl (enters_of Tryz.func46 (by kernel_rfl) rfl) (by simp [Act.eval]) (equal_not wz.heap.size B2 (some ⟨gt, 0, none⟩) A9 16 16 16 (c2 - q) T (ys.drop q) wz.drew (iz.below c1) (bz.below (c1.mono (Nat.le_trans hB2 dz.size))) (by omega) (by omega) heq) ?_
      rintro e we ⟨rfl, hbe⟩
      have ce := c1.trans (hbe.mono c1.size)
      have de := dz.drew.trans (hbe.mono dz.drew.size)
      refine ⟨_, rfl, ce, ?_⟩
      simp only [Act.put, Z1, Z2, Z3]
      refine Held.tk (v := .bool true) 5 (some 38) rfl (Held.y_eqi rfl rfl rfl) ce ?_
      simp only [Act.put, Z1, Z2, Z3]
      refine wpAnyH_done (by kernel_rfl) ?_ _
      have ho := HOP.out
      rw [if_neg heq] at ho
      have HO := Lib.hid ho
      clear ho heq
      go_wp2_with fail
      go_ret2
      exact ⟨de, .inl ⟨HO.out, rfl⟩⟩
  · refine Held.op_alloc_Row 7 (some 11) 58 .u8 16 rfl rfl rfl rfl zero_16b ?_
    intro gt wA ra hbwA hgt
    have cA := c0.trans (hbwA.mono c0.size)
    have dA := d0.trans (hbwA.mono d0.size)
    have hgz : w2.heap.size ≤ gt := Nat.le_trans c0.size hgt.out
    refine ⟨cA, ?_⟩
    simp only [Act.put, Z1, Z2, Z3]
    refine Held.one 6 (by kernel_rfl) ?_
    refine Held.op_call 6 (some 32) 35 #[.agg (arr .u8 key), .agg (arr .u8 nonce), .slice A n c, .slice A2 q c2] rfl rfl rfl rfl (enters_of Tryz.func35 (by kernel_rfl) rfl) (by simp [Act.eval]) (tagof_any key nonce B A n c xs B2 A2 q c2 (ys.take q) wA HK.out hkb HN.out hnb (h.ints.below (dA.mono hB)) (Nat.le_trans hB dA.size) h.2.2.2.1 h.2.2.2.2 (by omega) (hfr.below (dA.mono hB2)) (Nat.le_trans hB2 dA.size) hqc h2.2.2.2.2 (by omega) (hL.below (dA.mono hB0)).1 (hL.below (dA.mono hB0)).2.1) ?_
    rintro e wB ⟨rfl, hbwB⟩
    have cB := cA.trans (hbwB.mono cA.size)
    have dB := dA.trans (hbwB.mono dA.size)
    have ra := ra.below hbwB ra.lt
    refine ⟨_, rfl, cB, ?_⟩
    simp only [Act.put, Z1, Z2, Z3]
    refine Held.one 8 (by kernel_rfl) ?_
    refine Held.op_store_RowL 8 none 58 gt 58 .u8 _ (aeTag key nonce xs (ys.take q)) rfl rfl rfl rfl rfl rfl ra 16 info_16b HTL.out (by simp) (bs_wf HTB.out) ?_
    intro wz rz gz
    have cz := cB.grown gz cB.size (fun r e => by cases e; exact hgz)
    have dz := dB.grown gz dB.size (fun r e => by cases e; exact Nat.le_trans b2.size hgz)
    clear cA dA cB dB gz ra
    refine ⟨cz, ?_⟩
    simp only [Act.put]
    refine wpAnyH_done (by kernel_rfl) ?_ _
    have kz := r12.below cz r12.lt
    have nz := r2.below cz r2.lt
    have fz := hfr.below (dz.mono hB2)
    have bz := hbk.below (dz.mono hB2)
    have hz := Nat.le_trans b2.size cz.size
    clear cz hgz hgt
    obtain ⟨T, hT⟩ : ∃ T, aeTag key nonce xs (ys.take q) = T := ⟨_, rfl⟩
    rw [hT] at HTL HTB HOP rz
    clear hT
    have iz : Ints wz .u8 wz.heap.size (some ⟨gt, 0, none⟩) 16 T := by
      have := rz.ints (n := 16) (by rw [HTL.out]; omega)
      rwa [List.take_of_length_le (by rw [HTL.out]; omega)] at this
    have hsT : ∀ W, (Instr.sliceAt 58 (.pointer (some ⟨gt, 0, none⟩)) none none none).run Tryz.prog W = .ok (.slice (some ⟨gt, 0, none⟩) 16 16) W := fun W => run_slice_arr_all (P := Tryz.prog) _ 5 16 _ W Tryz.underlying58 (by kernel_rfl) (by omega)
    go_wp2_with fail
    refine wp_region_held (S := fun W => Below wz.heap.size wz W) (by kernel_rfl) ?_
    change wpAnyH _ _ _ _ _ _ _ _ wz.drew
    have c1 := (Below.refl wz.heap.size wz).drew
    refine Held.tk (v := .slice (some ⟨gt, 0, none⟩) 16 16) 0 (some 33) rfl (Held.y_slice rfl hsT) c1 ?_
    simp only [Act.put, Z1, Z2, Z3]
    refine Held.tk (v := .slice A2 n2 c2) 1 (some 34) rfl (Held.y_move rfl rfl) c1 ?_
    simp only [Act.put, Z1, Z2, Z3]
    refine Held.tk (v := .int .i64 (q : Int)) 2 (some 35) rfl (Held.y_move rfl rfl) c1 ?_
    simp only [Act.put, Z1, Z2, Z3]
    refine Held.tk (v := .slice A9 16 (c2 - q)) 3 (some 36) rfl (Held.y_slice rfl hslb) c1 ?_
    simp only [Act.put, Z1, Z2, Z3]
    refine Held.one 4 (by kernel_rfl) ?_
    by_cases heq : T = ys.drop q
    · refine Held.op_call 4 (some 37) 46 #[.slice (some ⟨gt, 0, none⟩) 16 16, .slice A9 16 (c2 - q)] rfl rfl rfl rfl (enters_of Tryz.func46 (by kernel_rfl) rfl) (by simp [Act.eval]) (equal_same wz.heap.size B2 (some ⟨gt, 0, none⟩) A9 16 16 16 (c2 - q) T (ys.drop q) wz.drew (iz.below c1) (bz.below (c1.mono (Nat.le_trans hB2 dz.size))) (by omega) (by omega) heq) ?_
      rintro e we ⟨rfl, hbe⟩
      have ce := c1.trans (hbe.mono c1.size)
      have de := dz.drew.trans (hbe.mono dz.drew.size)
      refine ⟨_, rfl, ce, ?_⟩
      simp only [Act.put, Z1, Z2, Z3]
      refine Held.tk (v := .bool false) 5 (some 38) rfl (Held.y_eqn rfl rfl rfl (by omega)) ce ?_
      simp only [Act.put, Z1, Z2, Z3]
      refine wpAnyH_done (by kernel_rfl) ?_ _
      have ho := HOP.out
      rw [if_pos heq] at ho
      have HO := Lib.hid ho
      clear ho heq
      go_wp2_with fail
      refine wp_region_held (S := fun W => Below wz.heap.size wz W) (by kernel_rfl) ?_
      change wpAnyH _ _ _ _ _ _ _ _ we.drew
      have y2 := ce.drew
      have d2 := de.drew
      refine Held.tk (v := .agg (arr .u8 key)) 0 (some 39) rfl (Held.y_load_Row (zs := key) rfl rfl Tryz.underlying22 size_32b HK.out (fun W hW => kz.below hW kz.lt)) y2 ?_
      simp only [Act.put, Z1, Z2, Z3]
      refine Held.tk (v := .agg (arr .u8 nonce)) 1 (some 40) rfl (Held.y_load_Row (zs := nonce) rfl rfl Tryz.underlying45 size_12b HN.out (fun W hW => nz.below hW nz.lt)) y2 ?_
      simp only [Act.put, Z1, Z2, Z3]
      refine Held.tk (v := .slice A2 n2 c2) 2 (some 41) rfl (Held.y_move rfl rfl) y2 ?_
      simp only [Act.put, Z1, Z2, Z3]
      refine Held.tk (v := .int .i64 (q : Int)) 3 (some 42) rfl (Held.y_move rfl rfl) y2 ?_
      simp only [Act.put, Z1, Z2, Z3]
      refine Held.tk (v := .slice A2 q c2) 4 (some 43) rfl (Held.y_slice rfl hslf) y2 ?_
      simp only [Act.put, Z1, Z2, Z3]
      refine Held.one 5 (by kernel_rfl) ?_
      refine Held.op_call 5 (some 44) 34 #[.agg (arr .u8 key), .agg (arr .u8 nonce), .int .u32 1, .slice A2 q c2] rfl rfl rfl rfl (enters_of Tryz.func34 (by kernel_rfl) rfl) (by simp [Act.eval]) (Cha.xor_any key nonce 1 B2 A2 q c2 (ys.take q) we.drew (hfr.below (d2.mono hB2)) (Nat.le_trans hB2 d2.size) hqc (by omega) HK.out hkb HN.out hnb ⟨by omega, by omega⟩ (hL.below (d2.mono hB0)).1) ?_
      rintro e wy ⟨Ay, cy, rfl, hcy, hcmy, oy, hby⟩
      have c3 := y2.trans (hby.mono y2.size)
      have d3 := d2.trans (hby.mono d2.size)
      refine ⟨_, rfl, c3, ?_⟩
      simp only [Act.put, Z1, Z2, Z3]
      refine Held.tk (v := .slice Ay q cy) 6 (some 8) rfl (Held.y_assign rfl rfl) c3 ?_
      simp only [Act.put, Z1, Z2, Z3]
      refine Held.tk (v := .int .i64 0) 7 (some 9) rfl (Held.y_assign rfl rfl) c3 ?_
      simp only [Act.put, Z1, Z2, Z3]
      refine wpAnyH_done (by kernel_rfl) ?_ _
      go_wp2_with fail
      go_ret2
      exact ⟨d3, .inr ⟨_, Ay, cy, HO.out, by rw [Cc.xors_length, HYQ.out], rfl, oy.less d2.size⟩⟩
    · refine Held.op_call 4 (some 37) 46 #[.slice (some ⟨gt, 0, none⟩) 16 16, .slice A9 16 (c2 - q)] rfl rfl rfl rfl (enters_of Tryz.func46 (by kernel_rfl) rfl) (by simp [Act.eval]) (equal_not wz.heap.size B2 (some ⟨gt, 0, none⟩) A9 16 16 16 (c2 - q) T (ys.drop q) wz.drew (iz.below c1) (bz.below (c1.mono (Nat.le_trans hB2 dz.size))) (by omega) (by omega) heq) ?_
      rintro e we ⟨rfl, hbe⟩
      have ce := c1.trans (hbe.mono c1.size)
      have de := dz.drew.trans (hbe.mono dz.drew.size)
      refine ⟨_, rfl, ce, ?_⟩
      simp only [Act.put, Z1, Z2, Z3]
      refine Held.tk (v := .bool true) 5 (some 38) rfl (Held.y_eqi rfl rfl rfl) ce ?_
      simp only [Act.put, Z1, Z2, Z3]
      refine wpAnyH_done (by kernel_rfl) ?_ _
      have ho := HOP.out
      rw [if_neg heq] at ho
      have HO := Lib.hid ho
      clear ho heq
      go_wp2_with fail
      go_ret2
      exact ⟨de, .inl ⟨HO.out, rfl⟩⟩
end Go.Proofs.YtjelacblnjbfgaaGreatDoor.Ae
namespace Go.Proofs.YtjelacblnjbfgaaGreatDoor.Rs
open Go.RowKit Go.Shelf Go.Proofs.YtjelacblnjbfgaaGreatDoor Mem Help Go.Proofs.YtjelacblnjbfgaaGreatDoor.Sum Po Ky Ae Hkdf Held Rc
attribute [local irreducible] wpList wpListIn Calls
def LaidB (B : Nat) (w : World) : Prop := Ae.Laid B w ∧ Sha.Tab w 2 Sum.H0 ∧ Sha.Tab w 3 Sum.K ∧ 2 < B ∧ 3 < B
theorem LaidB.below {B : Nat} {w w' : World} (h : LaidB B w) (hb : Below B w w') : LaidB B w' := ⟨h.1.below hb, h.2.1.below hb h.2.2.2.1, h.2.2.1.below hb h.2.2.2.2, h.2.2.2⟩
theorem flat_of_ownM {w : World} {base : Nat} {A : Option Addr} {n c : Nat} {zs : List Int} (h : OwnM w base 5 .u8 (.slice A n c) zs) : Flat A c := by
  rcases h.2 with ⟨e, _⟩ | ⟨g, cap, cur, fz, e, _⟩
  · cases e; exact .inl rfl
  · cases e; exact Flat.head _ _ _
theorem arg_of_ownM {w : World} {base : Nat} {A : Option Addr} {n c : Nat} {zs : List Int} (h : OwnM w base 5 .u8 (.slice A n c) zs) (hn : zs.length = n) : Arg w w.heap.size A n c zs := by
  have hf := flat_of_ownM h
  obtain ⟨_, _, ev, h1, h2, hi⟩ := h.form
  rw [hn] at ev h1 hi
  cases ev
  exact ⟨hi, Nat.le_refl _, hf, h1, h2⟩
theorem ownM_len {w : World} {base : Nat} {A : Option Addr} {n c : Nat} {zs : List Int} (h : OwnM w base 5 .u8 (.slice A n c) zs) : zs.length = n := by
  obtain ⟨_, _, ev, _⟩ := h.form
  cases ev
  rfl
theorem open_uni (key nonce : List Int) (B0 B : Nat) (A : Option Addr) (n c : Nat) (xs : List Int) (B2 : Nat) (A2 : Option Addr) (n2 c2 : Nat) (ys : List Int) (w : World) (hL : Ae.Laid B0 w) (hB0 : B0 ≤ w.heap.size) (hk : key.length = 32) (hkb : Bs key) (hnl : nonce.length = 12) (hnb : Bs nonce)
    (h : Arg w B A n c xs) (hn : n ≤ 65536) (h2 : Arg w B2 A2 n2 c2 ys) (hn2 : n2 ≤ 65552) :
    Calls Tryz.prog 25 #[.agg (arr .u8 key), .agg (arr .u8 nonce), .slice A n c, .slice A2 n2 c2] w fun e w' => ∃ A' m c', e = .returned (.tuple #[.slice A' m c', .int .i64 (oE key nonce xs ys)]) ∧ Hid ((oP key nonce xs ys).length = m) ∧ Mem.Own w' w.heap.size 5 .u8 (.slice A' m c') (oP key nonce xs ys) ∧ Below w.heap.size w w' := by
  have hl := h2.len
  by_cases hs : n2 < 16
  · refine (open_short key nonce B0 B A n c xs B2 A2 n2 c2 ys w hL hB0 hk hkb hnl hnb h hn h2 hs).mono ?_
    rintro e w' ⟨rfl, hw⟩
    have h1 : oE key nonce xs ys = 3 := if_pos (by omega)
    have h2 : oP key nonce xs ys = [] := if_pos (by omega)
    rw [h1, h2]
    exact ⟨none, 0, 0, rfl, Lib.hid rfl, Own.nil _ _ _ _, hw⟩
  · obtain ⟨q, hq⟩ : ∃ q, n2 = q + 16 := ⟨n2 - 16, by omega⟩
    refine (open_any key nonce B0 B A n c xs B2 A2 n2 c2 q ys w hL hB0 hk hkb hnl hnb h hn h2 hq (by omega)).mono ?_
    rintro e w' ⟨hw, ⟨ho, rfl⟩ | ⟨p, A', c', ho, hp, rfl, op⟩⟩
    · have h1 : oE key nonce xs ys = 6 := by rw [oE, if_neg (by omega), ho]
      have h2 : oP key nonce xs ys = [] := by rw [oP, if_neg (by omega), ho]; rfl
      rw [h1, h2]
      exact ⟨none, 0, 0, rfl, Lib.hid rfl, Own.nil _ _ _ _, hw⟩
    · have h1 : oE key nonce xs ys = 0 := by rw [oE, if_neg (by omega), ho]
      have h2 : oP key nonce xs ys = p := by rw [oP, if_neg (by omega), ho]; rfl
      rw [h1, h2]
      exact ⟨A', q, c', rfl, Lib.hid hp, op, hw⟩
set_option maxRecDepth 100000 in
set_option maxHeartbeats 4000000 in
theorem seals_bad (job : List Int) (hk : job.length = 32) (hkb : ∀ z ∈ job, (Lit.int .u8 z).wf = true) (ph rr ad tm ix : Int) (ht : (Lit.int .u64 tm).wf = true) (A : Option Addr) (n c : Nat) (size : Int) (w : World) (hs : mayS size = false) :
    Calls Tryz.prog 6 #[.agg (arr .u8 job), .agg #[.int .i64 ph, .int .i64 rr, .int .i64 ad, .int .u64 tm, .int .i64 ix], .slice A n c, .int .i64 size] w fun e w' => e = .returned (.tuple #[.slice none 0 0, .int .i64 1]) ∧ Below w.heap.size w w' := by
  go_enter Tryz.func6, Tryz.ntmps6
  go_wp2_with (first
    | (refine wpList_box_Row (w := w) rfl 22 _ rfl .u8 job rfl hkb ?_; intro u1 ra ga za)
    | (refine wpList_box_blk (w := u1) rfl 25 _ rfl #[.int .i64 ph, .int .i64 rr, .int .i64 ad, .int .u64 tm, .int .i64 ix] rfl ?_; intro u2 qp gb zb; have ra := ra.grown gb (by simp)))
  have bz : Below w.heap.size w u2 := ((Below.refl _ w).grown ga (Nat.le_refl _) (by simp)).grown gb ga.size (by simp)
  clear ga gb za zb
  refine (packs_bad A n c size _ hs).mono ?_
  rintro e u3 ⟨rfl, rfl⟩
  go_wp2_with fail
  exact bodyPost_ret (results_tmp2 rfl _ _ _) rfl ⟨rfl, bz⟩
set_option maxRecDepth 100000 in
set_option maxHeartbeats 4000000 in
theorem seals_long (job : List Int) (hk : job.length = 32) (hkb : ∀ z ∈ job, (Lit.int .u8 z).wf = true) (ph rr ad tm ix : Int) (ht : (Lit.int .u64 tm).wf = true) (A : Option Addr) (n c : Nat) (size : Int) (w : World) (hs : mayS size = true) (hn : size < (n : Int)) :
    Calls Tryz.prog 6 #[.agg (arr .u8 job), .agg #[.int .i64 ph, .int .i64 rr, .int .i64 ad, .int .u64 tm, .int .i64 ix], .slice A n c, .int .i64 size] w fun e w' => e = .returned (.tuple #[.slice none 0 0, .int .i64 5]) ∧ Below w.heap.size w w' := by
  go_enter Tryz.func6, Tryz.ntmps6
  go_wp2_with (first
    | (refine wpList_box_Row (w := w) rfl 22 _ rfl .u8 job rfl hkb ?_; intro u1 ra ga za)
    | (refine wpList_box_blk (w := u1) rfl 25 _ rfl #[.int .i64 ph, .int .i64 rr, .int .i64 ad, .int .u64 tm, .int .i64 ix] rfl ?_; intro u2 qp gb zb; have ra := ra.grown gb (by simp)))
  have bz : Below w.heap.size w u2 := ((Below.refl _ w).grown ga (Nat.le_refl _) (by simp)).grown gb ga.size (by simp)
  clear ga gb za zb
  refine (packs_long A n c size _ hs hn).mono ?_
  rintro e u3 ⟨rfl, rfl⟩
  go_wp2_with fail
  exact bodyPost_ret (results_tmp2 rfl _ _ _) rfl ⟨rfl, bz⟩
set_option maxRecDepth 100000 in
set_option maxHeartbeats 16000000 in
theorem seals_ok (B0 : Nat) (job : List Int) (hk : job.length = 32) (hkb : ∀ z ∈ job, (Lit.int .u8 z).wf = true) (ph rr ad tm ix : Int) (ht : (Lit.int .u64 tm).wf = true) (B : Nat) (A : Option Addr) (n c : Nat) (rs : List R) (size : Nat) (w : World) (hL : LaidB B0 w) (hB0 : B0 ≤ w.heap.size) (h : Recs w B A n rs) (hB : B ≤ w.heap.size) (h1 : 1 ≤ size) (h8 : size ≤ 8) (hn : n ≤ size) :
    Calls Tryz.prog 6 #[.agg (arr .u8 job), .agg #[.int .i64 ph, .int .i64 rr, .int .i64 ad, .int .u64 tm, .int .i64 ix], .slice A n c, .int .i64 (size : Int)] w fun e w' => ∃ A' m c', e = .returned (.tuple #[.slice A' m c', .int .i64 0]) ∧ Hid ((blockS job ph rr ad tm ix rs size).length = m) ∧ Mem.Own w' w.heap.size 5 .u8 (.slice A' m c') (blockS job ph rr ad tm ix rs size) ∧ Below w.heap.size w w' := by
  unfold blockS
  obtain ⟨nz, hnz⟩ : ∃ nz : Int, 32 * (size : Int) = nz := ⟨_, rfl⟩
  obtain ⟨pl, hple⟩ : ∃ pl, packs (pad rs size) = pl := ⟨_, rfl⟩
  rw [hnz, hple]
  have HNZ := Lib.hid hnz
  have hs0 : (0 : Int) ≤ (size : Int) := by omega
  have hs8 : (size : Int) ≤ 8 := by omega
  have HPL := Lib.hid hple
  clear hple
  go_enter Tryz.func6, Tryz.ntmps6
  go_wp2_with (first
    | (refine wpList_box_Row (w := w) rfl 22 _ rfl .u8 job rfl hkb ?_; intro u1 ra ga za)
    | (refine wpList_box_blk (w := u1) rfl 25 _ rfl #[.int .i64 ph, .int .i64 rr, .int .i64 ad, .int .u64 tm, .int .i64 ix] rfl ?_; intro u2 qp gb zb; have ra := ra.grown gb (by simp)))
  have bz : Below w.heap.size w u2 := ((Below.refl _ w).grown ga (Nat.le_refl _) (by simp)).grown gb ga.size (by simp)
  clear ga gb za zb
  refine (packs_ok B A n c rs size u2 (h.below (bz.mono hB)) (Nat.le_trans hB bz.size) h1 h8 hn).mono ?_
  rintro e u3 ⟨A1, c1, rfl, op, b3⟩
  have ra := ra.below b3 ra.lt
  have qp := qp.below b3 qp.lt
  have bz := bz.trans (b3.mono bz.size)
  have hpl : (packs (pad rs size)).length = 32 * size := by rw [packs_length, pad_length (by rw [h.1]; exact hn)]
  obtain ⟨n1, hn1e⟩ : ∃ n1, 32 * size = n1 := ⟨_, rfl⟩
  rw [HPL.out, hn1e] at op hpl
  rw [hn1e]
  have hn1 : n1 ≤ 65536 := by omega
  have hpi := arg_of_own op hpl
  have HLW : ∀ {W : World}, Below u3.heap.size u3 W → Below B0 w W := fun hW => (bz.mono hB0).trans (hW.mono (Nat.le_trans hB0 bz.size))
  have lra := ra.lt
  have lqp := qp.lt
  clear b3 op hnz hn1e h h1 h8 hn hB
  go_wp2_with fail
  refine wp_region_held (S := fun W => Below u3.heap.size u3 W) (by kernel_rfl) ?_
  change wpAnyH _ _ _ _ _ _ _ _ u3.drew
  have c0_0 := (Below.refl u3.heap.size u3).drew
  refine Held.tk (v := .agg (arr .u8 job)) 0 (some 21) rfl (Held.y_load_Row rfl rfl Tryz.underlying22 (by kernel_rfl) hk (fun W hW => ra.below hW lra)) c0_0 ?_
  simp only [Act.put, Z1, Z2, Z3]
  refine Held.tk (v := .agg #[.int .i64 ph, .int .i64 rr, .int .i64 ad, .int .u64 tm, .int .i64 ix]) 1 (some 22) rfl (Held.y_load_blk (n := 5) rfl rfl Tryz.underlying25 rfl (by kernel_rfl) rfl (fun W hW => qp.below hW lqp)) c0_0 ?_
  simp only [Act.put, Z1, Z2, Z3]
  refine Held.tk (v := .pointer (some ⟨u1.heap.size, 3, none⟩)) 3 (some 24) rfl (Held.y_field (k := 3) (s := 0) rfl rfl Tryz.underlying25 rfl (by kernel_rfl) rfl) c0_0 ?_
  simp only [Act.put, Z1, Z2, Z3]
  refine Held.tk (v := .int .u64 tm) 4 (some 25) rfl (Held.y_load rfl rfl (by kernel_rfl) (fun W hW => (qp.below hW lqp).cell rfl)) c0_0 ?_
  simp only [Act.put, Z1, Z2, Z3]
  refine Held.tk (v := .pointer (some ⟨u1.heap.size, 4, none⟩)) 5 (some 26) rfl (Held.y_field (k := 4) (s := 0) rfl rfl Tryz.underlying25 rfl (by kernel_rfl) rfl) c0_0 ?_
  simp only [Act.put, Z1, Z2, Z3]
  refine Held.tk (v := .int .i64 ix) 6 (some 27) rfl (Held.y_load rfl rfl (by kernel_rfl) (fun W hW => (qp.below hW lqp).cell rfl)) c0_0 ?_
  simp only [Act.put, Z1, Z2, Z3]
  refine Held.tk (v := .agg #[.int .i64 ph, .int .i64 rr, .int .i64 ad, .int .u64 tm, .int .i64 ix]) 8 (some 29) rfl (Held.y_load_blk (n := 5) rfl rfl Tryz.underlying25 rfl (by kernel_rfl) rfl (fun W hW => qp.below hW lqp)) c0_0 ?_
  simp only [Act.put, Z1, Z2, Z3]
  refine Held.tk (v := .int .i64 (size : Int)) 9 (some 30) rfl (Held.y_move rfl rfl) c0_0 ?_
  simp only [Act.put, Z1, Z2, Z3]
  refine Held.tk (v := .slice A1 n1 c1) 12 (some 33) rfl (Held.y_move rfl rfl) c0_0 ?_
  simp only [Act.put, Z1, Z2, Z3]
  refine Held.one 2 (by kernel_rfl) ?_
  refine Held.op_call 2 (some 23) 15 #[.agg (arr .u8 job), .agg #[.int .i64 ph, .int .i64 rr, .int .i64 ad, .int .u64 tm, .int .i64 ix]] rfl rfl rfl rfl (enters_of Tryz.func15 (by kernel_rfl) rfl) (by simp [Act.eval])
    (place_any job hk hkb ph rr ad tm ix _ (hL.2.1.below (HLW c0_0) hL.2.2.2.1) (hL.2.2.1.below (HLW c0_0) hL.2.2.2.2)) ?_
  rintro e w1 ⟨rfl, b1⟩
  have c0_1 := c0_0.trans (b1.mono c0_0.size)
  refine ⟨_, rfl, c0_1, ?_⟩
  simp only [Act.put, Z1, Z2, Z3]
  refine Held.one 7 (by kernel_rfl) ?_
  refine Held.op_call 7 (some 28) 16 #[.int .u64 tm, .int .i64 ix] rfl rfl rfl rfl (enters_of Tryz.func16 (by kernel_rfl) rfl) (by simp [Act.eval])
    (nonce_any tm ix ht _) ?_
  rintro e w2 ⟨rfl, b2⟩
  have c0_2 := c0_1.trans (b2.mono c0_1.size)
  refine ⟨_, rfl, c0_2, ?_⟩
  simp only [Act.put, Z1, Z2, Z3]
  refine Held.one 10 (by kernel_rfl) ?_
  refine Held.op_call 10 (some 31) 18 #[.int .i64 (size : Int)] rfl rfl rfl rfl (enters_of Tryz.func18 (by kernel_rfl) rfl) (by simp [Act.eval])
    (bplain_any (size : Int) _ hs0 hs8) ?_
  rintro e w9 ⟨rfl, rfl⟩
  rw [HNZ.out]
  refine ⟨_, rfl, c0_2, ?_⟩
  simp only [Act.put, Z1, Z2, Z3]
  refine Held.one 11 (by kernel_rfl) ?_
  refine Held.op_call 11 (some 32) 17 #[.agg #[.int .i64 ph, .int .i64 rr, .int .i64 ad, .int .u64 tm, .int .i64 ix], .int .i64 nz] rfl rfl rfl rfl (enters_of Tryz.func17 (by kernel_rfl) rfl) (by simp [Act.eval])
    (aad_any ph rr ad tm ix nz ht _) ?_
  rintro e w3 ⟨pA, pn, pc, rfl, oa, b3⟩
  have c0_3 := c0_2.trans (b3.mono c0_2.size)
  refine ⟨_, rfl, c0_3, ?_⟩
  simp only [Act.put, Z1, Z2, Z3]
  refine Held.one 13 (by kernel_rfl) ?_
  refine Held.op_call 13 (some 34) 14 #[.agg (arr .u8 (kPlace job ph rr ad)), .agg (arr .u8 (nonce tm ix)), .slice pA pn pc, .slice A1 n1 c1] rfl rfl rfl rfl (enters_of Tryz.func14 (by kernel_rfl) rfl) (by simp [Act.eval])
    (seal_any (kPlace job ph rr ad) (nonce tm ix) B0 w3.heap.size pA pn pc (kAad ph rr ad tm ix nz) u3.heap.size A1 n1 c1 pl _ (hL.1.below (HLW c0_3)) (Nat.le_trans hB0 (Nat.le_trans bz.size c0_3.size)) (kp_length _ _ _ _) (kp_bytes _ _ _ _) (nonce_length _ _) (nonce_bytes _ _) (arg_of_ownM oa (ownM_len oa)) (by have := ownM_len oa; rw [kAad_length] at this; omega) (hpi.below c0_3) hn1) ?_
  rintro e w4 ⟨sA, sm, sc, rfl, hsm, os, b4⟩
  have c0_4 := c0_3.trans (b4.mono c0_3.size)
  refine ⟨_, rfl, c0_4, ?_⟩
  simp only [Act.put, Z1, Z2, Z3]
  refine Held.tk (v := .slice sA sm sc) 14 (some 35) rfl (Held.y_extract rfl rfl rfl) c0_4 ?_
  simp only [Act.put, Z1, Z2, Z3]
  refine Held.tk (v := .int .i64 0) 15 (some 36) rfl (Held.y_extract rfl rfl rfl) c0_4 ?_
  simp only [Act.put, Z1, Z2, Z3]
  refine Held.tk (v := .slice sA sm sc) 16 (some 8) rfl (Held.y_assign rfl rfl) c0_4 ?_
  simp only [Act.put, Z1, Z2, Z3]
  refine Held.tk (v := .int .i64 0) 17 (some 9) rfl (Held.y_assign rfl rfl) c0_4 ?_
  simp only [Act.put, Z1, Z2, Z3]
  refine wpAnyH_done (by kernel_rfl) ?_ _
  have dz := bz.trans (c0_4.mono bz.size)
  go_wp2_with fail
  exact bodyPost_ret (results_tmp2 rfl _ _ _) rfl ⟨sA, sm, sc, rfl, hsm, os.less (Nat.le_trans bz.size c0_3.size), dz⟩
theorem seals_any (B0 : Nat) (job : List Int) (hk : job.length = 32) (hkb : ∀ z ∈ job, (Lit.int .u8 z).wf = true) (ph rr ad tm ix : Int) (hp : (Lit.int .i64 ph).wf = true) (hq : (Lit.int .i64 rr).wf = true) (ha : (Lit.int .i64 ad).wf = true) (ht : (Lit.int .u64 tm).wf = true) (hi : (Lit.int .i64 ix).wf = true) (B : Nat) (A : Option Addr) (n c : Nat) (rs : List R) (size : Int) (w : World) (hL : LaidB B0 w) (hB0 : B0 ≤ w.heap.size) (h : Recs w B A n rs) (hB : B ≤ w.heap.size) :
    Calls Tryz.prog 6 #[.agg (arr .u8 job), .agg #[.int .i64 ph, .int .i64 rr, .int .i64 ad, .int .u64 tm, .int .i64 ix], .slice A n c, .int .i64 size] w fun e w' => ∃ A' m c', e = .returned (.tuple #[.slice A' m c', .int .i64 (packE n size)]) ∧ Hid ((sealB job ph rr ad tm ix rs size).length = m) ∧ Mem.Own w' w.heap.size 5 .u8 (.slice A' m c') (sealB job ph rr ad tm ix rs size) ∧ Below w.heap.size w w' := by
  have hl := h.1
  by_cases hs : mayS size = true
  · have hb : 1 ≤ size ∧ size ≤ 8 := by simpa [mayS] using hs
    by_cases h1 : size < (n : Int)
    · refine (seals_long job hk hkb ph rr ad tm ix ht A n c size w hs h1).mono ?_
      rintro e w' ⟨rfl, hw⟩
      have HE : packE n size = 5 := by rw [packE, if_neg (by simp [hs]), if_pos h1]
      have HB : sealB job ph rr ad tm ix rs size = [] := by rw [sealB, if_neg (by omega)]
      rw [HE, HB]
      exact ⟨none, 0, 0, rfl, Lib.hid rfl, Own.nil _ _ _ _, hw⟩
    · obtain ⟨q, rfl⟩ : ∃ q : Nat, (q : Int) = size := ⟨size.toNat, by omega⟩
      have HE : packE n (q : Int) = 0 := by rw [packE, if_neg (by simp [hs]), if_neg h1]
      have HB : sealB job ph rr ad tm ix rs (q : Int) = blockS job ph rr ad tm ix rs q := by rw [sealB, if_pos ⟨hs, by omega⟩]; rfl
      rw [HE, HB]
      exact seals_ok B0 job hk hkb ph rr ad tm ix ht B A n c rs q w hL hB0 h hB (by omega) (by omega) (by omega)
  · have hs' : mayS size = false := by simpa using hs
    refine (seals_bad job hk hkb ph rr ad tm ix ht A n c size w hs').mono ?_
    rintro e w' ⟨rfl, hw⟩
    have HE : packE n size = 1 := by rw [packE, if_pos hs']
    have HB : sealB job ph rr ad tm ix rs size = [] := by rw [sealB, if_neg (fun h => hs h.1)]
    rw [HE, HB]
    exact ⟨none, 0, 0, rfl, Lib.hid rfl, Own.nil _ _ _ _, hw⟩
set_option maxRecDepth 100000 in
set_option maxHeartbeats 16000000 in
theorem opens_may (B0 : Nat) (job : List Int) (hk : job.length = 32) (hkb : ∀ z ∈ job, (Lit.int .u8 z).wf = true) (ph rr ad tm ix : Int) (ht : (Lit.int .u64 tm).wf = true) (B : Nat) (A : Option Addr) (n c : Nat) (zs : List Int) (size : Int) (w : World) (hL : LaidB B0 w) (hB0 : B0 ≤ w.heap.size) (h : Ints w .u8 B A n zs) (hB : B ≤ w.heap.size) (hf : Flat A c) (hc : n ≤ c) (hcm : c ≤ maxLen) (hn : n ≤ 65552) (hs : mayS size = true) :
    Calls Tryz.prog 8 #[.agg (arr .u8 job), .agg #[.int .i64 ph, .int .i64 rr, .int .i64 ad, .int .u64 tm, .int .i64 ix], .int .i64 size, .slice A n c] w fun e w' => ∃ A' n' c', e = .returned (.tuple #[.slice A' n' c', .int .i64 (blockOE job ph rr ad tm ix size zs)]) ∧ OwnR w' w.heap.size (.slice A' n' c') (blockOR job ph rr ad tm ix size zs) ∧ Below w.heap.size w w' := by
  obtain ⟨nz, hnz⟩ : ∃ nz : Int, 32 * size = nz := ⟨_, rfl⟩
  have hb : 1 ≤ size ∧ size ≤ 8 := by simpa [mayS] using hs
  have HNZ := Lib.hid hnz
  have HS := Lib.hid hs
  have hs0 : (0 : Int) ≤ size := by omega
  have hs8 : size ≤ 8 := hb.2
  clear hnz hb
  go_enter Tryz.func8, Tryz.ntmps8
  go_wp2_with (first
    | (refine wpList_box_Row (w := w) rfl 22 _ rfl .u8 job rfl hkb ?_; intro u1 ra ga za)
    | (refine wpList_box_blk (w := u1) rfl 25 _ rfl #[.int .i64 ph, .int .i64 rr, .int .i64 ad, .int .u64 tm, .int .i64 ix] rfl ?_; intro u2 qp gb zb; have ra := ra.grown gb (by simp)))
  have bz : Below w.heap.size w u2 := ((Below.refl _ w).grown ga (Nat.le_refl _) (by simp)).grown gb ga.size (by simp)
  clear ga gb za zb
  refine (bmay_any size u2).mono ?_
  rintro e u3 ⟨rfl, rfl⟩
  rw [hs]
  clear hs
  have HLW : ∀ {W : World}, Below u2.heap.size u2 W → Below B0 w W := fun hW => (bz.mono hB0).trans (hW.mono (Nat.le_trans hB0 bz.size))
  have lra := ra.lt
  have lqp := qp.lt
  go_wp2_with fail
  refine wp_region_held (S := fun W => Below u2.heap.size u2 W) (by kernel_rfl) ?_
  change wpAnyH _ _ _ _ _ _ _ _ u2.drew
  have c0_0 := (Below.refl u2.heap.size u2).drew
  refine Held.tk (v := .agg (arr .u8 job)) 0 (some 16) rfl (Held.y_load_Row rfl rfl Tryz.underlying22 (by kernel_rfl) hk (fun W hW => ra.below hW lra)) c0_0 ?_
  simp only [Act.put, Z1, Z2, Z3]
  refine Held.tk (v := .agg #[.int .i64 ph, .int .i64 rr, .int .i64 ad, .int .u64 tm, .int .i64 ix]) 1 (some 17) rfl (Held.y_load_blk (n := 5) rfl rfl Tryz.underlying25 rfl (by kernel_rfl) rfl (fun W hW => qp.below hW lqp)) c0_0 ?_
  simp only [Act.put, Z1, Z2, Z3]
  refine Held.tk (v := .pointer (some ⟨u1.heap.size, 3, none⟩)) 3 (some 19) rfl (Held.y_field (k := 3) (s := 0) rfl rfl Tryz.underlying25 rfl (by kernel_rfl) rfl) c0_0 ?_
  simp only [Act.put, Z1, Z2, Z3]
  refine Held.tk (v := .int .u64 tm) 4 (some 20) rfl (Held.y_load rfl rfl (by kernel_rfl) (fun W hW => (qp.below hW lqp).cell rfl)) c0_0 ?_
  simp only [Act.put, Z1, Z2, Z3]
  refine Held.tk (v := .pointer (some ⟨u1.heap.size, 4, none⟩)) 5 (some 21) rfl (Held.y_field (k := 4) (s := 0) rfl rfl Tryz.underlying25 rfl (by kernel_rfl) rfl) c0_0 ?_
  simp only [Act.put, Z1, Z2, Z3]
  refine Held.tk (v := .int .i64 ix) 6 (some 22) rfl (Held.y_load rfl rfl (by kernel_rfl) (fun W hW => (qp.below hW lqp).cell rfl)) c0_0 ?_
  simp only [Act.put, Z1, Z2, Z3]
  refine Held.tk (v := .agg #[.int .i64 ph, .int .i64 rr, .int .i64 ad, .int .u64 tm, .int .i64 ix]) 8 (some 24) rfl (Held.y_load_blk (n := 5) rfl rfl Tryz.underlying25 rfl (by kernel_rfl) rfl (fun W hW => qp.below hW lqp)) c0_0 ?_
  simp only [Act.put, Z1, Z2, Z3]
  refine Held.tk (v := .int .i64 size) 9 (some 25) rfl (Held.y_move rfl rfl) c0_0 ?_
  simp only [Act.put, Z1, Z2, Z3]
  refine Held.tk (v := .slice A n c) 12 (some 28) rfl (Held.y_move rfl rfl) c0_0 ?_
  simp only [Act.put, Z1, Z2, Z3]
  refine Held.one 2 (by kernel_rfl) ?_
  refine Held.op_call 2 (some 18) 15 #[.agg (arr .u8 job), .agg #[.int .i64 ph, .int .i64 rr, .int .i64 ad, .int .u64 tm, .int .i64 ix]] rfl rfl rfl rfl (enters_of Tryz.func15 (by kernel_rfl) rfl) (by simp [Act.eval])
    (place_any job hk hkb ph rr ad tm ix _ (hL.2.1.below (HLW c0_0) hL.2.2.2.1) (hL.2.2.1.below (HLW c0_0) hL.2.2.2.2)) ?_
  rintro e w1 ⟨rfl, b1⟩
  have c0_1 := c0_0.trans (b1.mono c0_0.size)
  refine ⟨_, rfl, c0_1, ?_⟩
  simp only [Act.put, Z1, Z2, Z3]
  refine Held.one 7 (by kernel_rfl) ?_
  refine Held.op_call 7 (some 23) 16 #[.int .u64 tm, .int .i64 ix] rfl rfl rfl rfl (enters_of Tryz.func16 (by kernel_rfl) rfl) (by simp [Act.eval])
    (nonce_any tm ix ht _) ?_
  rintro e w2 ⟨rfl, b2⟩
  have c0_2 := c0_1.trans (b2.mono c0_1.size)
  refine ⟨_, rfl, c0_2, ?_⟩
  simp only [Act.put, Z1, Z2, Z3]
  refine Held.one 10 (by kernel_rfl) ?_
  refine Held.op_call 10 (some 26) 18 #[.int .i64 size] rfl rfl rfl rfl (enters_of Tryz.func18 (by kernel_rfl) rfl) (by simp [Act.eval])
    (bplain_any size _ hs0 hs8) ?_
  rintro e w9 ⟨rfl, rfl⟩
  rw [HNZ.out]
  refine ⟨_, rfl, c0_2, ?_⟩
  simp only [Act.put, Z1, Z2, Z3]
  refine Held.one 11 (by kernel_rfl) ?_
  refine Held.op_call 11 (some 27) 17 #[.agg #[.int .i64 ph, .int .i64 rr, .int .i64 ad, .int .u64 tm, .int .i64 ix], .int .i64 nz] rfl rfl rfl rfl (enters_of Tryz.func17 (by kernel_rfl) rfl) (by simp [Act.eval])
    (aad_any ph rr ad tm ix nz ht _) ?_
  rintro e w3 ⟨pA, pn, pc, rfl, oa, b3⟩
  have c0_3 := c0_2.trans (b3.mono c0_2.size)
  refine ⟨_, rfl, c0_3, ?_⟩
  simp only [Act.put, Z1, Z2, Z3]
  refine Held.one 13 (by kernel_rfl) ?_
  refine Held.op_call 13 (some 29) 25 #[.agg (arr .u8 (kPlace job ph rr ad)), .agg (arr .u8 (nonce tm ix)), .slice pA pn pc, .slice A n c] rfl rfl rfl rfl (enters_of Tryz.func25 (by kernel_rfl) rfl) (by simp [Act.eval])
    (open_uni (kPlace job ph rr ad) (nonce tm ix) B0 w3.heap.size pA pn pc (kAad ph rr ad tm ix nz) B A n c zs _ (hL.1.below (HLW c0_3)) (Nat.le_trans hB0 (Nat.le_trans bz.size c0_3.size)) (kp_length _ _ _ _) (kp_bytes _ _ _ _) (nonce_length _ _) (nonce_bytes _ _) (arg_of_ownM oa (ownM_len oa)) (by have := ownM_len oa; rw [kAad_length] at this; omega) ⟨h.below ((bz.trans (c0_3.mono bz.size)).mono hB), Nat.le_trans hB (Nat.le_trans bz.size c0_3.size), hf, hc, hcm⟩ hn) ?_
  rintro e w4 ⟨sA, sm, sc, rfl, hsm, os, b4⟩
  have c0_4 := c0_3.trans (b4.mono c0_3.size)
  refine ⟨_, rfl, c0_4, ?_⟩
  simp only [Act.put, Z1, Z2, Z3]
  refine Held.tk (v := .tuple #[.slice sA sm sc, .int .i64 (oE (kPlace job ph rr ad) (nonce tm ix) (kAad ph rr ad tm ix nz) zs)]) 14 (some 15) rfl (Held.y_move rfl rfl) c0_4 ?_
  simp only [Act.put, Z1, Z2, Z3]
  refine Held.tk (v := .slice sA sm sc) 15 (some 30) rfl (Held.y_extract rfl rfl rfl) c0_4 ?_
  simp only [Act.put, Z1, Z2, Z3]
  refine Held.tk (v := .int .i64 (oE (kPlace job ph rr ad) (nonce tm ix) (kAad ph rr ad tm ix nz) zs)) 16 (some 31) rfl (Held.y_extract rfl rfl rfl) c0_4 ?_
  simp only [Act.put, Z1, Z2, Z3]
  refine Held.tk (v := .slice sA sm sc) 17 (some 10) rfl (Held.y_assign rfl rfl) c0_4 ?_
  simp only [Act.put, Z1, Z2, Z3]
  refine Held.tk (v := .int .i64 (oE (kPlace job ph rr ad) (nonce tm ix) (kAad ph rr ad tm ix nz) zs)) 18 (some 11) rfl (Held.y_assign rfl rfl) c0_4 ?_
  simp only [Act.put, Z1, Z2, Z3]
  refine wpAnyH_done (by kernel_rfl) ?_ _
  have dz := bz.trans (c0_4.mono bz.size)
  obtain ⟨E, hE⟩ : ∃ E, oE (kPlace job ph rr ad) (nonce tm ix) (kAad ph rr ad tm ix nz) zs = E := ⟨_, rfl⟩
  obtain ⟨pl, hP⟩ : ∃ pl, oP (kPlace job ph rr ad) (nonce tm ix) (kAad ph rr ad tm ix nz) zs = pl := ⟨_, rfl⟩
  rw [hE]
  rw [hP] at os hsm
  have HEE := Lib.hid hE
  have HP := Lib.hid hP
  clear hE hP
  have hcap : sm ≤ sc := by
    obtain ⟨A2, c2, e, hle, _⟩ := os.form
    injection e with e1 e2 e3
    omega
  by_cases h0 : E = 0
  · subst h0
    have H1 := Lib.hid (show blockOE job ph rr ad tm ix size zs = takesE pl size by rw [blockOE, if_neg (by simp [HS.out]), HNZ.out, HEE.out, if_pos rfl, HP.out])
    have H2 := Lib.hid (show blockOR job ph rr ad tm ix size zs = takesR pl size by rw [blockOR, if_neg (by simp [HS.out]), HNZ.out, HEE.out, if_pos rfl, HP.out])
    have hpi := os.ints hsm.out
    go_wp2_with fail
    refine (takes_any w4.heap.size sA sm sc pl size w4 hpi (Nat.le_refl _) hcap).mono ?_
    rintro e wz ⟨A', n', c', rfl, ho, hw⟩
    have dz := dz.trans (hw.mono dz.size)
    have ho := ho.less (Nat.le_trans bz.size c0_4.size)
    go_wp2_with fail
    exact bodyPost_ret (results_tmp2 rfl _ _ _) rfl ⟨A', n', c', by rw [H1.out]; rfl, by rw [H2.out]; exact ho, dz⟩
  · have H1 := Lib.hid (show blockOE job ph rr ad tm ix size zs = E by rw [blockOE, if_neg (by simp [HS.out]), HNZ.out, HEE.out, if_neg h0])
    have H2 := Lib.hid (show blockOR job ph rr ad tm ix size zs = [] by rw [blockOR, if_neg (by simp [HS.out]), HNZ.out, HEE.out, if_neg h0])
    go_wp2_with fail
    exact bodyPost_ret (results_tmp2 rfl _ _ _) rfl ⟨none, 0, 0, by rw [H1.out]; rfl, by rw [H2.out]; exact OwnR.nil _ _, dz⟩
set_option maxRecDepth 100000 in
set_option maxHeartbeats 16000000 in
theorem opens_any (B0 : Nat) (job : List Int) (hk : job.length = 32) (hkb : ∀ z ∈ job, (Lit.int .u8 z).wf = true) (ph rr ad tm ix : Int) (hp : (Lit.int .i64 ph).wf = true) (hq : (Lit.int .i64 rr).wf = true) (ha : (Lit.int .i64 ad).wf = true) (ht : (Lit.int .u64 tm).wf = true) (hi : (Lit.int .i64 ix).wf = true) (B : Nat) (A : Option Addr) (n c : Nat) (zs : List Int) (size : Int) (w : World) (hL : LaidB B0 w) (hB0 : B0 ≤ w.heap.size) (h : Ints w .u8 B A n zs) (hB : B ≤ w.heap.size) (hf : Flat A c) (hc : n ≤ c) (hcm : c ≤ maxLen) (hn : n ≤ 65552) :
    Calls Tryz.prog 8 #[.agg (arr .u8 job), .agg #[.int .i64 ph, .int .i64 rr, .int .i64 ad, .int .u64 tm, .int .i64 ix], .int .i64 size, .slice A n c] w fun e w' => ∃ A' n' c', e = .returned (.tuple #[.slice A' n' c', .int .i64 (blockOE job ph rr ad tm ix size zs)]) ∧ OwnR w' w.heap.size (.slice A' n' c') (blockOR job ph rr ad tm ix size zs) ∧ Below w.heap.size w w' := by
  by_cases hs : mayS size = true
  · exact opens_may B0 job hk hkb ph rr ad tm ix ht B A n c zs size w hL hB0 h hB hf hc hcm hn hs
  · have hs' : mayS size = false := by simpa using hs
    have H1 := Lib.hid (show blockOE job ph rr ad tm ix size zs = 1 from if_pos hs')
    have H2 := Lib.hid (show blockOR job ph rr ad tm ix size zs = [] from if_pos hs')
    rw [H1.out, H2.out]
    go_enter Tryz.func8, Tryz.ntmps8
    go_wp2_with (first
      | (refine wpList_box_Row (w := w) rfl 22 _ rfl .u8 job rfl hkb ?_; intro u1 ra ga za)
      | (refine wpList_box_blk (w := u1) rfl 25 _ rfl #[.int .i64 ph, .int .i64 rr, .int .i64 ad, .int .u64 tm, .int .i64 ix] rfl ?_; intro u2 qp gb zb; have ra := ra.grown gb (by simp)))
    have bz : Below w.heap.size w u2 := ((Below.refl _ w).grown ga (Nat.le_refl _) (by simp)).grown gb ga.size (by simp)
    clear ga gb za zb
    refine (bmay_any size u2).mono ?_
    rintro e u3 ⟨rfl, rfl⟩
    rw [hs']
    go_wp2_with fail
    exact bodyPost_ret (results_tmp2 rfl _ _ _) rfl ⟨none, 0, 0, rfl, OwnR.nil _ _, bz⟩
end Go.Proofs.YtjelacblnjbfgaaGreatDoor.Rs
namespace Go.Proofs.YtjelacblnjbfgaaGreatDoor.Rs
open Go.RowKit Go.Shelf Go.Proofs.YtjelacblnjbfgaaGreatDoor Mem Held Rc
attribute [local irreducible] wpList wpListIn Calls
set_option maxRecDepth 100000 in
set_option maxHeartbeats 8000000 in
theorem awake10_any (w : World) : Calls Tryz.prog 5 #[] w fun e w' => e = .returned (.bool true) ∧ Below w.heap.size w w' := by
  have HP := Lib.hid (show (packB [⟨false, 1, 0, 0⟩] 2).length = 64 by decide +kernel)
  have HE := Lib.hid (show packE 1 2 = 0 by decide +kernel)
  have HZ := Lib.hid (show sizeV 2 = 80 by decide +kernel)
  have H8 := Lib.hid (show (packB [⟨false, 1, 0, 0⟩] 2).getD 8 0 = 1 by decide +kernel)
  have H32 := Lib.hid (show (packB [⟨false, 1, 0, 0⟩] 2).getD 32 0 = 1 by decide +kernel)
  go_enter Tryz.func5, Tryz.ntmps5
  go_wp2_with (refine wpList_build_rec (w := w) rfl _ rfl ⟨false, 1, 0, 0⟩ rfl ?_; intro w1 q1 g1 z1)
  have i1 : Recs w1 w1.heap.size (some ⟨w.heap.size, 0, none⟩) 1 [⟨false, 1, 0, 0⟩] := recs_of_blk (rs := [⟨false, 1, 0, 0⟩]) (qs := []) (by rw [List.append_nil, flat_one]; exact q1) (fun r hr => by rw [List.mem_singleton.1 hr]; exact ⟨rfl, rfl, rfl⟩)
  have b1 : Below w.heap.size w w1 := (Below.refl _ w).grown g1 (Nat.le_refl _) (by simp)
  refine (packs_any w1.heap.size _ 1 1 _ 2 w1 i1 (Nat.le_refl _)).mono ?_
  rintro e w2 ⟨A', n', c', rfl, hl, o2, b2⟩
  rw [HE.out]
  obtain rfl : n' = 64 := by rw [← hl.out, HP.out]
  have b2 := b1.trans (b2.mono b1.size)
  obtain ⟨zs, hzs⟩ : ∃ zs, packB [⟨false, 1, 0, 0⟩] 2 = zs := ⟨_, rfl⟩
  rw [hzs] at H8 H32 o2 hl
  have i2 := o2.ints hl.out
  obtain ⟨b, off, rfl, hb, hx⟩ := i2.2.2 (by omega)
  clear hzs HP i1 q1 g1 z1 o2 b1
  have c8 := hx 8 (by omega)
  have c32 := hx 32 (by omega)
  rw [H8.out] at c8
  rw [H32.out] at c32
  clear hx i2 H8 H32 hl
  go_wp2_with fail
  refine (size_any 2 w2).mono ?_
  rintro e w3 ⟨rfl, b3⟩
  rw [HZ.out]
  have b3 := b2.trans (b3.mono b2.size)
  go_wp2_with fail
  go_ret
  exact ⟨rfl, b3⟩
end Go.Proofs.YtjelacblnjbfgaaGreatDoor.Rs
namespace Go.Proofs.YtjelacblnjbfgaaGreatDoor.Rs
open Go.RowKit Go.Shelf Go.Proofs.YtjelacblnjbfgaaGreatDoor Mem Held Rc Ky Ae Po
attribute [local irreducible] wpList wpListIn Calls
def blockLaid : List (String × DataW Unit) := [("domino/chacha.start", Rows.laid_domino_chacha_start), ("domino/poly.kept", Rows.laid_domino_poly_kept), ("domino/sha.start", Rows.laid_domino_sha_start), ("domino/sha.words", Rows.laid_domino_sha_words)]
set_option maxRecDepth 100000 in
theorem laid_of {w : World} (h : laidMetH Tryz.prog blockLaid w) : LaidB w.heap.size w := by
  rw [MakeChecks.laidMetH_plain _ _ _ (by kernel_rfl)] at h
  have h1 : Lib.TabIs Tryz.prog w "domino/chacha.start" .u32 Cc.sigma := Lib.tabIs_of_head (e := 57) (n := 4) (zs := Cc.sigma) (t := 144) (g := 1) (by kernel_rfl) (by kernel_rfl) Tryz.underlying144 Tryz.underlying57 (by kernel_rfl) (by kernel_rfl) h
  have h2 : Lib.TabIs Tryz.prog w "domino/poly.kept" .u8 keptI := Lib.tabIs_of_head (e := 5) (n := 16) (zs := keptI) (t := 58) (g := 0) (by kernel_rfl) (by kernel_rfl) Tryz.underlying58 Tryz.underlying5 (by kernel_rfl) (by kernel_rfl) (laidMet.tail h)
  have h4 : Lib.TabIs Tryz.prog w "domino/sha.start" .u32 Sum.H0 := Lib.tabIs_of_head (e := 57) (n := 8) (zs := Sum.H0) (t := 151) (g := 2) (by kernel_rfl) (by kernel_rfl) Tryz.underlying151 Tryz.underlying57 (by kernel_rfl) (by kernel_rfl) (laidMet.tail (laidMet.tail h))
  have h5 : Lib.TabIs Tryz.prog w "domino/sha.words" .u32 Sum.K := Lib.tabIs_of_head (e := 57) (n := 64) (zs := Sum.K) (t := 149) (g := 3) (by kernel_rfl) (by kernel_rfl) Tryz.underlying149 Tryz.underlying57 (by kernel_rfl) (by kernel_rfl) (laidMet.tail (laidMet.tail (laidMet.tail h)))
  have t4 : Sha.Tab w 2 Sum.H0 := Sha.tab_of_var (by kernel_rfl) h4
  have t5 : Sha.Tab w 3 Sum.K := Sha.tab_of_var (by kernel_rfl) h5
  exact ⟨laid_of_two (Sha.tab_of_var (by kernel_rfl) h1) (tabK_of_var (by kernel_rfl) h2), t4, t5, t4.lt, t5.lt⟩
end Go.Proofs.YtjelacblnjbfgaaGreatDoor.Rs
