/-
  The functions Seal and Open of package aead by their contracts.
  What the frame of a proof says of a list of records that came in.
  The document's own Size of blocks (package dominoref10) by its contract.
  Where every activation may run, what is shown of one operation without a fence holds within a round, and within an iterator, too: no program here.
  Package block: which sizes may be, how long blocks are, and the iterator over records with dead ones behind them, by their contracts.
  The iterator over packed records of package block, by its contract: it hands out what each 32 bytes are taken as, with the error.
  The iterator over records of package block, by its contract: it hands out each record of its list, in order, and dead ones behind them, up to a size.
-/
import Derived.Test.YtjelacblnjbfgaaGreatDoorB23
import Derived.Test.YtjelacblnjbfgaaGreatDoorB26
import Derived.Test.YtjelacblnjbfgaaGreatDoorB27
import Derived.Test.YtjelacblnjbfgaaGreatDoorB5
import Derived.Test.YtjelacblnjbfgaaGreatDoorB12
import Derived.Test.YtjelacblnjbfgaaGreatDoorB10
import Derived.WideShapes
import Derived.ChangeArms
import Derived.Test.YtjelacblnjbfgaaGreatDoorB14
import Derived.Test.YtjelacblnjbfgaaGreatDoorB9
import Derived.Test.YtjelacblnjbfgaaGreatDoorB13
import Derived.Test.YtjelacblnjbfgaaGreatDoorB11
import Derived.Test.YtjelacblnjbfgaaGreatDoorB1
set_option linter.unusedVariables false
namespace Go.Proofs.YtjelacblnjbfgaaGreatDoor.Ae
open Go.RowKit Go.Shelf Go.Proofs.YtjelacblnjbfgaaGreatDoor Mem Help Go.Proofs.YtjelacblnjbfgaaGreatDoor.Sum Po
attribute [local irreducible] wpList wpListIn
def Laid (B : Nat) (w : World) : Prop := Sha.Tab w 1 Cc.sigma ∧ TabK w 0 .u8 keptI ∧ 1 < B ∧ 0 < B
theorem Laid.below {B : Nat} {w w' : World} (h : Laid B w) (hb : Below B w w') : Laid B w' := ⟨h.1.below hb h.2.2.1, h.2.1.below hb h.2.2.2, h.2.2⟩
theorem Laid.more {B B' : Nat} {w : World} (h : Laid B w) (hB : B ≤ B') : Laid B' w := ⟨h.1, h.2.1, Nat.lt_of_lt_of_le h.2.2.1 hB, Nat.lt_of_lt_of_le h.2.2.2 hB⟩
theorem laid_of_two {w : World} (h1 : Sha.Tab w 1 Cc.sigma) (h2 : TabK w 0 .u8 keptI) : Laid w.heap.size w := ⟨h1, h2, h1.lt, h2.lt⟩
theorem equal_same (B B' : Nat) (A A' : Option Addr) (n n' c c' : Nat) (zs zs' : List Int) (w : World) (h : Ints w .u8 B A n zs) (h' : Ints w .u8 B' A' n' zs') (hn : n ≤ 17592186044416) (hn' : n' ≤ 17592186044416) (e : zs = zs') :
    Calls Tryz.prog 46 #[.slice A n c, .slice A' n' c'] w fun e w' => e = .returned (.int .u64 1) ∧ Below w.heap.size w w' :=
  (Ct.equal_any B B' A A' n n' c c' zs zs' w h h' hn hn').mono fun _ _ ⟨h1, h2⟩ => ⟨by rw [h1, Ct.eqI, if_pos e], h2.below _⟩
theorem equal_not (B B' : Nat) (A A' : Option Addr) (n n' c c' : Nat) (zs zs' : List Int) (w : World) (h : Ints w .u8 B A n zs) (h' : Ints w .u8 B' A' n' zs') (hn : n ≤ 17592186044416) (hn' : n' ≤ 17592186044416) (e : zs ≠ zs') :
    Calls Tryz.prog 46 #[.slice A n c, .slice A' n' c'] w fun e w' => e = .returned (.int .u64 0) ∧ Below w.heap.size w w' :=
  (Ct.equal_any B B' A A' n n' c c' zs zs' w h h' hn hn').mono fun _ _ ⟨h1, h2⟩ => ⟨by rw [h1, Ct.eqI, if_neg e], h2.below _⟩
set_option maxRecDepth 100000 in
set_option maxHeartbeats 4000000 in
theorem seal_any (key nonce : List Int) (B0 B : Nat) (A : Option Addr) (n c : Nat) (xs : List Int) (B2 : Nat) (A2 : Option Addr) (n2 c2 : Nat) (ys : List Int) (w : World) (hL : Laid B0 w) (hB0 : B0 ≤ w.heap.size) (hk : key.length = 32) (hkb : Bs key) (hnl : nonce.length = 12) (hnb : Bs nonce)
    (h : Arg w B A n c xs) (hn : n ≤ 65536) (h2 : Arg w B2 A2 n2 c2 ys) (hn2 : n2 ≤ 65536) :
    Calls Tryz.prog 14 #[.agg (arr .u8 key), .agg (arr .u8 nonce), .slice A n c, .slice A2 n2 c2] w fun e w' => ∃ A' m c', e = .returned (.tuple #[.slice A' m c', .int .i64 0]) ∧ Hid ((sealed key nonce xs ys).length = m) ∧ Mem.Own w' w.heap.size 5 .u8 (.slice A' m c') (sealed key nonce xs ys) ∧ Below w.heap.size w w' := by
  have h1' : ¬ (65536 : Int) < (n : Int) := by omega
  have h2' : ¬ (65536 : Int) < (n2 : Int) := by omega
  have HK := Lib.hid hk
  have HN := Lib.hid hnl
  have HY := Lib.hid h2.len
  clear hk hnl
  go_enter Tryz.func14, Tryz.ntmps14
  go_wp2_with (first
    | (refine wpList_box_Row (w := w) rfl 22 _ rfl .u8 key rfl (bs_wf hkb) ?_; intro w1 r1 g1 z1)
    | (refine wpList_box_Row (w := w1) rfl 45 _ rfl .u8 nonce rfl (bs_wf hnb) ?_; intro w2 r2 g2 z2; have r12 := r1.grown g2 (by simp))
    | (refine wpList_load_Row (w := w2) rfl 22 _ rfl w.heap.size rfl 22 .u8 _ r12 32 5 Tryz.underlying22 size_32b HK.out ?_)
    | (refine wpList_load_Row (w := w2) rfl 45 _ rfl w1.heap.size rfl 45 .u8 _ r2 12 5 Tryz.underlying45 size_12b HN.out ?_))
  obtain ⟨gn, hgn⟩ : ∃ g, w1.heap.size = g := ⟨_, rfl⟩
  have hg0 : w.heap.size < gn := by have := r1.lt; omega
  have b2 : Below w.heap.size w w2 := ((Below.refl _ w).grown g1 (Nat.le_refl _) (by simp)).grown g2 g1.size (by simp)
  rw [hgn] at r2 ⊢
  have l2 := r2.lt
  clear hgn r1 g1 g2 z1 z2 w1
  refine (Cha.xor_any key nonce 1 B2 A2 n2 c2 ys w2 (h2.ints.below (b2.mono h2.2.1)) (Nat.le_trans h2.2.1 b2.size) h2.2.2.2.1 (by omega) HK.out hkb HN.out hnb ⟨by omega, by omega⟩ (hL.below (b2.mono hB0)).1).mono ?_
  rintro e w3 ⟨A3, c3, rfl, hc3, hcm3, o3, hb3⟩
  have k3 := r12.below hb3 r12.lt
  have n3 := r2.below hb3 r2.lt
  have b3 := b2.trans (hb3.mono b2.size)
  have s3 := hb3.size
  have HXL := Lib.hid (show (Cc.xors key nonce 1 ys).length = n2 by rw [Cc.xors_length, HY.out])
  have hss : sealed key nonce xs ys = Cc.xors key nonce 1 ys ++ aeTag key nonce xs (Cc.xors key nonce 1 ys) := rfl
  have HSS := Lib.hid hss
  clear hss r12 r2 b2 hb3
  obtain ⟨zs, hzs⟩ : ∃ zs, Cc.xors key nonce 1 ys = zs := ⟨_, rfl⟩
  rw [hzs] at o3 HXL HSS
  clear hzs
  have i3 : Ints w3 .u8 w3.heap.size A3 n2 zs := by
    obtain ⟨_, _, ev, _, _, i⟩ := o3.form
    rw [HXL.out] at ev i
    cases ev
    exact i
  go_wp2_with (first
    | (refine wpList_load_Row (w := w3) rfl 22 _ rfl w.heap.size rfl 22 .u8 _ k3 32 5 Tryz.underlying22 size_32b HK.out ?_)
    | (refine wpList_load_Row (w := w3) rfl 45 _ rfl gn rfl 45 .u8 _ n3 12 5 Tryz.underlying45 size_12b HN.out ?_))
  refine (tagof_any key nonce B A n c xs w3.heap.size A3 n2 c3 zs w3 HK.out hkb HN.out hnb (h.ints.below (b3.mono h.2.1)) (Nat.le_trans h.2.1 b3.size) h.2.2.2.1 h.2.2.2.2 (by omega) i3 (Nat.le_refl _) hc3 (by unfold maxLen; omega) (by omega) (hL.below (b3.mono hB0)).1 (hL.below (b3.mono hB0)).2.1).mono ?_
  rintro e w4 ⟨rfl, hb4⟩
  have o4 := o3.below hb4
  have b4 := b3.trans (hb4.mono b3.size)
  have s4 := Nat.le_trans s3 hb4.size
  have hw2 : w.heap.size ≤ w2.heap.size := by omega
  clear k3 n3 b3 s3 hb4 o3 i3
  have HTL := Lib.hid (aeTag_length key nonce xs zs)
  have HTB := Lib.hid (aeTag_bytes key nonce xs zs)
  obtain ⟨T, hT⟩ : ∃ T, aeTag key nonce xs zs = T := ⟨_, rfl⟩
  rw [hT] at HTL HTB HSS ⊢
  clear hT
  go_wp2_with (first
    | (refine wpList_alloc_Row (w := w4) rfl 58 rfl .u8 16 zero_16b ?_; intro w5 r5 g5 z5; have o5 := o4.kept g5 (by cases (Value.slice A3 n2 c3).ownBlock <;> simp))
    | (refine wpList_store_RowTo (w := w5) rfl 58 _ _ rfl w4.heap.size rfl 58 .u8 _ T rfl r5 16 info_16b HTL.out (by simp) (bs_wf HTB.out) ?_; intro w6 r6 g6 z6; have hsl : (Instr.sliceAt 58 (.pointer (some ⟨w4.heap.size, 0, none⟩)) none none none).run Tryz.prog w6 = .ok (.slice (some ⟨w4.heap.size, 0, none⟩) 16 16) w6 := run_slice_arr_all (P := Tryz.prog) _ 5 16 _ w6 Tryz.underlying58 (by kernel_rfl) (by omega);
        have o6 := o5.kept g6 (.inr (fun e => by have := (o4.2.lt _ e).2; omega));
        have i6 : Ints w6 .u8 w6.heap.size (some ⟨w4.heap.size, 0, none⟩) 16 T := by
          have := r6.ints (n := 16) (by rw [HTL.out]; omega)
          rwa [List.take_of_length_le (by rw [HTL.out]; omega)] at this)
    | (at_builtin; refine wpList_append_ints w6 rfl _ _ 27 rfl w2.heap.size 5 .u8 1 Tryz.underlying27 info_u8 (.slice A3 n2 c3) zs rfl o6 w6.heap.size (some ⟨w4.heap.size, 0, none⟩) 16 16 T rfl i6 (by rw [HXL.out]; omega) (by omega) (by have := g5.size; have := g6.size; omega) ?_; intro v7 w7 o7 g7 t7))
  have s5 := g5.size
  have s6 := g6.size
  have b7 : Below w.heap.size w w7 := (((b4.grown g5 b4.size (by simp)).grown g6 (Nat.le_trans b4.size s5) (fun r e => by have := b4.size; cases e; omega))).grown g7 (Nat.le_trans b4.size (Nat.le_trans s5 s6)) (fun r e => by have := (o6.2.lt r e).1; omega)
  clear r5 g5 g6 g7 o4 o5 o6 r6 i6 hsl t7 z5 z6
  obtain ⟨A7, c7, rfl, _, _, _⟩ := o7.form
  obtain ⟨m, hm⟩ : ∃ m, (zs ++ T).length = m := ⟨_, rfl⟩
  rw [hm] at o7 ⊢
  have HM := Lib.hid hm
  clear hm
  go_wp2_with fail
  go_ret2
  rw [← HSS.out] at o7 HM
  exact ⟨A7, m, c7, rfl, HM, o7.less hw2, b7⟩
set_option maxRecDepth 100000 in
set_option maxHeartbeats 8000000 in
theorem open_short (key nonce : List Int) (B0 B : Nat) (A : Option Addr) (n c : Nat) (xs : List Int) (B2 : Nat) (A2 : Option Addr) (n2 c2 : Nat) (ys : List Int) (w : World) (hL : Laid B0 w) (hB0 : B0 ≤ w.heap.size) (hk : key.length = 32) (hkb : Bs key) (hnl : nonce.length = 12) (hnb : Bs nonce)
    (h : Arg w B A n c xs) (hn : n ≤ 65536) (h2 : Arg w B2 A2 n2 c2 ys) (hn2 : n2 < 16) :
    Calls Tryz.prog 25 #[.agg (arr .u8 key), .agg (arr .u8 nonce), .slice A n c, .slice A2 n2 c2] w fun e w' => e = .returned (.tuple #[.slice none 0 0, .int .i64 3]) ∧ Below w.heap.size w w' := by
  · have h1' : ¬ (65536 : Int) < (n : Int) := by omega
    have h2' : ¬ (65552 : Int) < (n2 : Int) := by omega
    have h3' : (n2 : Int) < 16 := by omega
    go_enter Tryz.func25, Tryz.ntmps25
    go_wp2_with (first
      | (refine wpList_box_Row (w := w) rfl 22 _ rfl .u8 key rfl (bs_wf hkb) ?_; intro w1 r1 g1 z1)
      | (refine wpList_box_Row (w := w1) rfl 45 _ rfl .u8 nonce rfl (bs_wf hnb) ?_; intro w2 r2 g2 z2))
    have b2 : Below w.heap.size w w2 := ((Below.refl _ w).grown g1 (Nat.le_refl _) (by simp)).grown g2 g1.size (by simp)
    go_ret2
    exact ⟨rfl, b2⟩
set_option maxRecDepth 100000 in
set_option maxHeartbeats 8000000 in
theorem open_any (key nonce : List Int) (B0 B : Nat) (A : Option Addr) (n c : Nat) (xs : List Int) (B2 : Nat) (A2 : Option Addr) (n2 c2 q : Nat) (ys : List Int) (w : World) (hL : Laid B0 w) (hB0 : B0 ≤ w.heap.size) (hk : key.length = 32) (hkb : Bs key) (hnl : nonce.length = 12) (hnb : Bs nonce)
    (h : Arg w B A n c xs) (hn : n ≤ 65536) (h2 : Arg w B2 A2 n2 c2 ys) (hq : n2 = q + 16) (hn2 : q ≤ 65536) :
    Calls Tryz.prog 25 #[.agg (arr .u8 key), .agg (arr .u8 nonce), .slice A n c, .slice A2 n2 c2] w fun e w' => Below w.heap.size w w' ∧
      ((opened key nonce xs ys = none ∧ e = .returned (.tuple #[.slice none 0 0, .int .i64 6])) ∨
        (∃ p A' c', opened key nonce xs ys = some p ∧ p.length = q ∧ e = .returned (.tuple #[.slice A' q c', .int .i64 0]) ∧ Mem.Own w' w.heap.size 5 .u8 (.slice A' q c') p)) := by
  have HOP : Hid (opened key nonce xs ys = if aeTag key nonce xs (ys.take q) = ys.drop q then some (Cc.xors key nonce 1 (ys.take q)) else none) := Lib.hid (by
    rw [opened, show ys.length - 16 = q by rw [h2.len]; omega])
  have h1' : ¬ (65536 : Int) < (n : Int) := by omega
  have h2' : ¬ (65552 : Int) < (n2 : Int) := by omega
  have h3' : ¬ (n2 : Int) < 16 := by omega
  have hsub0 : (n2 : Int) - 16 = (q : Int) := by omega
  have HK := Lib.hid hk
  have HN := Lib.hid hnl
  have HQ := Lib.hid hq
  have hqc : q ≤ c2 := by have := h2.2.2.2.1; omega
  have hqn : q ≤ n2 := by omega
  have hc2 := h2.2.2.2.1
  have hf := h2.2.2.1
  have hB := h.2.1
  have hB2 := h2.2.1
  have hfr := h2.ints.front hqn
  have hslf := fun W : World => run_front (P := Tryz.prog) (n := n2) (cap := c2) (h := q) Tryz.underlying27 size_1b hf hqc W
  obtain ⟨A9, hslb, _, hbk⟩ := run_back (P := Tryz.prog) Tryz.underlying27 size_1b hf hc2 hqn h2.ints
  rw [show n2 - q = 16 by omega] at hslb hbk
  have HYQ := Lib.hid (show (ys.take q).length = q from hfr.1)
  clear hk hnl hq
  go_enter Tryz.func25, Tryz.ntmps25
  go_wp2_with (first
    | (refine wpList_box_Row (w := w) rfl 22 _ rfl .u8 key rfl (bs_wf hkb) ?_; intro w1 r1 g1 z1)
    | (refine wpList_box_Row (w := w1) rfl 45 _ rfl .u8 nonce rfl (bs_wf hnb) ?_; intro w2 r2 g2 z2; have r12 := r1.grown g2 (by simp)))
  obtain ⟨gn, hgn⟩ : ∃ g, w1.heap.size = g := ⟨_, rfl⟩
  have hg0 : w.heap.size < gn := by have := r1.lt; omega
  have b2 : Below w.heap.size w w2 := ((Below.refl _ w).grown g1 (Nat.le_refl _) (by simp)).grown g2 g1.size (by simp)
  rw [hgn] at r2 ⊢
  have l2 := r2.lt
  have l1 := r12.lt
  clear hgn r1 g1 g2 z1 z2 w1
  refine wp_region_held (S := fun W => Below w2.heap.size w2 W) (by kernel_rfl) ?_
  change wpAnyH _ _ _ _ _ _ _ _ w2.drew
  have c0 := (Below.refl w2.heap.size w2).drew
  have d0 := b2.drew
  refine Held.tk (v := .agg (arr .u8 key)) 0 (some 26) rfl (Held.y_load_Row (zs := key) rfl rfl Tryz.underlying22 size_32b HK.out (fun W hW => r12.below hW r12.lt)) c0 ?_
  simp only [Act.put, Z1, Z2, Z3]
  refine Held.tk (v := .agg (arr .u8 nonce)) 1 (some 27) rfl (Held.y_load_Row (zs := nonce) rfl rfl Tryz.underlying45 size_12b HN.out (fun W hW => r2.below hW r2.lt)) c0 ?_
  simp only [Act.put, Z1, Z2, Z3]
  refine Held.tk (v := .slice A n c) 2 (some 28) rfl (Held.y_move rfl rfl) c0 ?_
  simp only [Act.put, Z1, Z2, Z3]
  refine Held.tk (v := .slice A2 n2 c2) 3 (some 29) rfl (Held.y_move rfl rfl) c0 ?_
  simp only [Act.put, Z1, Z2, Z3]
  refine Held.tk (v := .int .i64 (q : Int)) 4 (some 30) rfl (Held.y_move rfl rfl) c0 ?_
  simp only [Act.put, Z1, Z2, Z3]
  refine Held.tk (v := .slice A2 q c2) 5 (some 31) rfl (Held.y_slice rfl hslf) c0 ?_
  simp only [Act.put, Z1, Z2, Z3]
  have HTL := Lib.hid (aeTag_length key nonce xs (ys.take q))
  have HTB := Lib.hid (aeTag_bytes key nonce xs (ys.take q))
  refine Held.two 6 7 (by kernel_rfl) ?_ ?_
  · refine Held.op_call 6 (some 32) 35 #[.agg (arr .u8 key), .agg (arr .u8 nonce), .slice A n c, .slice A2 q c2] rfl rfl rfl rfl (enters_of Tryz.func35 (by kernel_rfl) rfl) (by simp [Act.eval]) (tagof_any key nonce B A n c xs B2 A2 q c2 (ys.take q) w2.drew HK.out hkb HN.out hnb (h.ints.below (d0.mono hB)) (Nat.le_trans hB d0.size) h.2.2.2.1 h.2.2.2.2 (by omega) (hfr.below (d0.mono hB2)) (Nat.le_trans hB2 d0.size) hqc h2.2.2.2.2 (by omega) (hL.below (d0.mono hB0)).1 (hL.below (d0.mono hB0)).2.1) ?_
    rintro e wA ⟨rfl, hbwA⟩
    have cA := c0.trans (hbwA.mono c0.size)
    have dA := d0.trans (hbwA.mono d0.size)
    refine ⟨_, rfl, cA, ?_⟩
    simp only [Act.put, Z1, Z2, Z3]
    refine Held.one 7 (by kernel_rfl) ?_
    refine Held.op_alloc_Row 7 (some 11) 58 .u8 16 rfl rfl rfl rfl zero_16b ?_
    intro gt wB ra hbwB hgt
    have cB := cA.trans (hbwB.mono cA.size)
    have dB := dA.trans (hbwB.mono dA.size)
    have hgz : w2.heap.size ≤ gt := Nat.le_trans cA.size hgt.out
    refine ⟨cB, ?_⟩
    simp only [Act.put, Z1, Z2, Z3]
    refine Held.one 8 (by kernel_rfl) ?_
    refine Held.op_store_RowL 8 none 58 gt 58 .u8 _ (aeTag key nonce xs (ys.take q)) rfl rfl rfl rfl rfl rfl ra 16 info_16b HTL.out (by simp) (bs_wf HTB.out) ?_
    intro wz rz gz
    have cz := cB.grown gz cB.size (fun r e => by cases e; exact hgz)
    have dz := dB.grown gz dB.size (fun r e => by cases e; exact Nat.le_trans b2.size hgz)
    clear cA dA cB dB gz ra
    refine ⟨cz, ?_⟩
    simp only [Act.put]
    refine wpAnyH_done (by kernel_rfl) ?_ _
    have kz := r12.below cz r12.lt
    have nz := r2.below cz r2.lt
    have fz := hfr.below (dz.mono hB2)
    have bz := hbk.below (dz.mono hB2)
    have hz := Nat.le_trans b2.size cz.size
    clear cz hgz hgt
    obtain ⟨T, hT⟩ : ∃ T, aeTag key nonce xs (ys.take q) = T := ⟨_, rfl⟩
    rw [hT] at HTL HTB HOP rz
    clear hT
    have iz : Ints wz .u8 wz.heap.size (some ⟨gt, 0, none⟩) 16 T := by
      have := rz.ints (n := 16) (by rw [HTL.out]; omega)
      rwa [List.take_of_length_le (by rw [HTL.out]; omega)] at this
    have hsT : ∀ W, (Instr.sliceAt 58 (.pointer (some ⟨gt, 0, none⟩)) none none none).run Tryz.prog W = .ok (.slice (some ⟨gt, 0, none⟩) 16 16) W := fun W => run_slice_arr_all (P := Tryz.prog) _ 5 16 _ W Tryz.underlying58 (by kernel_rfl) (by omega)
    go_wp2_with fail
    refine wp_region_held (S := fun W => Below wz.heap.size wz W) (by kernel_rfl) ?_
    change wpAnyH _ _ _ _ _ _ _ _ wz.drew
    have c1 := (Below.refl wz.heap.size wz).drew
    refine Held.tk (v := .slice (some ⟨gt, 0, none⟩) 16 16) 0 (some 33) rfl (Held.y_slice rfl hsT) c1 ?_
    simp only [Act.put, Z1, Z2, Z3]
    refine Held.tk (v := .slice A2 n2 c2) 1 (some 34) rfl (Held.y_move rfl rfl) c1 ?_
    simp only [Act.put, Z1, Z2, Z3]
    refine Held.tk (v := .int .i64 (q : Int)) 2 (some 35) rfl (Held.y_move rfl rfl) c1 ?_
    simp only [Act.put, Z1, Z2, Z3]
    refine Held.tk (v := .slice A9 16 (c2 - q)) 3 (some 36) rfl (Held.y_slice rfl hslb) c1 ?_
    simp only [Act.put, Z1, Z2, Z3]
    refine Held.one 4 (by kernel_rfl) ?_
    by_cases heq : T = ys.drop q
    · refine Held.op_call 4 (some 37) 46 #[.slice (some ⟨gt, 0, none⟩) 16 16, .slice A9 16 (c2 - q)] rfl rfl rfl rfl (enters_of Tryz.func46 (by kernel_rfl) rfl) (by simp [Act.eval]) (equal_same wz.heap.size B2 (some ⟨gt, 0, none⟩) A9 16 16 16 (c2 - q) T (ys.drop q) wz.drew (iz.below c1) (bz.below (c1.mono (Nat.le_trans hB2 dz.size))) (by omega) (by omega) heq) ?_
      rintro e we ⟨rfl, hbe⟩
      have ce := c1.trans (hbe.mono c1.size)
      have de := dz.drew.trans (hbe.mono dz.drew.size)
      refine ⟨_, rfl, ce, ?_⟩
      simp only [Act.put, Z1, Z2, Z3]
      refine Held.tk (v := .bool false) 5 (some 38) rfl (Held.y_eqn rfl rfl rfl (by omega)) ce ?_
      simp only [Act.put, Z1, Z2, Z3]
      refine wpAnyH_done (by kernel_rfl) ?_ _
      have ho := HOP.out
      rw [if_pos heq] at ho
      have HO := Lib.hid ho
      clear ho heq
      go_wp2_with fail
      refine wp_region_held (S := fun W => Below wz.heap.size wz W) (by kernel_rfl) ?_
      change wpAnyH _ _ _ _ _ _ _ _ we.drew
      have y2 := ce.drew
      have d2 := de.drew
      refine Held.tk (v := .agg (arr .u8 key)) 0 (some 39) rfl (Held.y_load_Row (zs := key) rfl rfl Tryz.underlying22 size_32b HK.out (fun W hW => kz.below hW kz.lt)) y2 ?_
      simp only [Act.put, Z1, Z2, Z3]
      refine Held.tk (v := .agg (arr .u8 nonce)) 1 (some 40) rfl (Held.y_load_Row (zs := nonce) rfl rfl Tryz.underlying45 size_12b HN.out (fun W hW => nz.below hW nz.lt)) y2 ?_
      simp only [Act.put, Z1, Z2, Z3]
      refine Held.tk (v := .slice A2 n2 c2) 2 (some 41) rfl (Held.y_move rfl rfl) y2 ?_
      simp only [Act.put, Z1, Z2, Z3]
      refine Held.tk (v := .int .i64 (q : Int)) 3 (some 42) rfl (Held.y_move rfl rfl) y2 ?_
      simp only [Act.put, Z1, Z2, Z3]
      refine Held.tk (v := .slice A2 q c2) 4 (some 43) rfl (Held.y_slice rfl hslf) y2 ?_
      simp only [Act.put, Z1, Z2, Z3]
      refine Held.one 5 (by kernel_rfl) ?_
      refine Held.op_call 5 (some 44) 34 #[.agg (arr .u8 key), .agg (arr .u8 nonce), .int .u32 1, .slice A2 q c2] rfl rfl rfl rfl (enters_of Tryz.func34 (by kernel_rfl) rfl) (by simp [Act.eval]) (Cha.xor_any key nonce 1 B2 A2 q c2 (ys.take q) we.drew (hfr.below (d2.mono hB2)) (Nat.le_trans hB2 d2.size) hqc (by omega) HK.out hkb HN.out hnb ⟨by omega, by omega⟩ (hL.below (d2.mono hB0)).1) ?_
      rintro e wy ⟨Ay, cy, rfl, hcy, hcmy, oy, hby⟩
      have c3 := y2.trans (hby.mono y2.size)
      have d3 := d2.trans (hby.mono d2.size)
      refine ⟨_, rfl, c3, ?_⟩
      simp only [Act.put, Z1, Z2, Z3]
      refine Held.tk (v := .slice Ay q cy) 6 (some 8) rfl (Held.y_assign rfl rfl) c3 ?_
      simp only [Act.put, Z1, Z2, Z3]
      refine Held.tk (v := .int .i64 0) 7 (some 9) rfl (Held.y_assign rfl rfl) c3 ?_
      simp only [Act.put, Z1, Z2, Z3]
      refine wpAnyH_done (by kernel_rfl) ?_ _
      go_wp2_with fail
      go_ret2
      exact ⟨d3, .inr ⟨_, Ay, cy, HO.out, by rw [Cc.xors_length, HYQ.out], rfl, oy.less d2.size⟩⟩
    · refine Held.op_call 4 (some 37) 46 #[.slice (some ⟨gt, 0, none⟩) 16 16, .slice A9 16 (c2 - q)] rfl rfl rfl rfl (enters_of Tryz.func46 (by kernel_rfl) rfl) (by simp [Act.eval]) (equal_not wz.heap.size B2 (some ⟨gt, 0, none⟩) A9 16 16 16 (c2 - q) T (ys.drop q) wz.drew (iz.below c1) (bz.below (c1.mono (Nat.le_trans hB2 dz.size))) (by omega) (by omega) heq) ?_
      rintro e we ⟨rfl, hbe⟩
      have ce := c1.trans (hbe.mono c1.size)
      have de := dz.drew.trans (hbe.mono dz.drew.size)
      refine ⟨_, rfl, ce, ?_⟩
      simp only [Act.put, Z1, Z2, Z3]
      refine Held.tk (v := .bool true) 5 (some 38) rfl (Held.y_eqi rfl rfl rfl) ce ?_
      simp only [Act.put, Z1, Z2, Z3]
      refine wpAnyH_done (by kernel_rfl) ?_ _
      have ho := HOP.out
      rw [if_neg heq] at ho
      have HO := Lib.hid ho
      clear ho heq
      go_wp2_with fail
      go_ret2
      exact ⟨de, .inl ⟨HO.out, rfl⟩⟩
  · refine Held.op_alloc_Row 7 (some 11) 58 .u8 16 rfl rfl rfl rfl zero_16b ?_
    intro gt wA ra hbwA hgt
    have cA := c0.trans (hbwA.mono c0.size)
    have dA := d0.trans (hbwA.mono d0.size)
    have hgz : w2.heap.size ≤ gt := Nat.le_trans c0.size hgt.out
    refine ⟨cA, ?_⟩
    simp only [Act.put, Z1, Z2, Z3]
    refine Held.one 6 (by kernel_rfl) ?_
    refine Held.op_call 6 (some 32) 35 #[.agg (arr .u8 key), .agg (arr .u8 nonce), .slice A n c, .slice A2 q c2] rfl rfl rfl rfl (enters_of Tryz.func35 (by kernel_rfl) rfl) (by simp [Act.eval]) (tagof_any key nonce B A n c xs B2 A2 q c2 (ys.take q) wA HK.out hkb HN.out hnb (h.ints.below (dA.mono hB)) (Nat.le_trans hB dA.size) h.2.2.2.1 h.2.2.2.2 (by omega) (hfr.below (dA.mono hB2)) (Nat.le_trans hB2 dA.size) hqc h2.2.2.2.2 (by omega) (hL.below (dA.mono hB0)).1 (hL.below (dA.mono hB0)).2.1) ?_
    rintro e wB ⟨rfl, hbwB⟩
    have cB := cA.trans (hbwB.mono cA.size)
    have dB := dA.trans (hbwB.mono dA.size)
    have ra := ra.below hbwB ra.lt
    refine ⟨_, rfl, cB, ?_⟩
    simp only [Act.put, Z1, Z2, Z3]
    refine Held.one 8 (by kernel_rfl) ?_
    refine Held.op_store_RowL 8 none 58 gt 58 .u8 _ (aeTag key nonce xs (ys.take q)) rfl rfl rfl rfl rfl rfl ra 16 info_16b HTL.out (by simp) (bs_wf HTB.out) ?_
    intro wz rz gz
    have cz := cB.grown gz cB.size (fun r e => by cases e; exact hgz)
    have dz := dB.grown gz dB.size (fun r e => by cases e; exact Nat.le_trans b2.size hgz)
    clear cA dA cB dB gz ra
    refine ⟨cz, ?_⟩
    simp only [Act.put]
    refine wpAnyH_done (by kernel_rfl) ?_ _
    have kz := r12.below cz r12.lt
    have nz := r2.below cz r2.lt
    have fz := hfr.below (dz.mono hB2)
    have bz := hbk.below (dz.mono hB2)
    have hz := Nat.le_trans b2.size cz.size
    clear cz hgz hgt
    obtain ⟨T, hT⟩ : ∃ T, aeTag key nonce xs (ys.take q) = T := ⟨_, rfl⟩
    rw [hT] at HTL HTB HOP rz
    clear hT
    have iz : Ints wz .u8 wz.heap.size (some ⟨gt, 0, none⟩) 16 T := by
      have := rz.ints (n := 16) (by rw [HTL.out]; omega)
      rwa [List.take_of_length_le (by rw [HTL.out]; omega)] at this
    have hsT : ∀ W, (Instr.sliceAt 58 (.pointer (some ⟨gt, 0, none⟩)) none none none).run Tryz.prog W = .ok (.slice (some ⟨gt, 0, none⟩) 16 16) W := fun W => run_slice_arr_all (P := Tryz.prog) _ 5 16 _ W Tryz.underlying58 (by kernel_rfl) (by omega)
    go_wp2_with fail
    refine wp_region_held (S := fun W => Below wz.heap.size wz W) (by kernel_rfl) ?_
    change wpAnyH _ _ _ _ _ _ _ _ wz.drew
    have c1 := (Below.refl wz.heap.size wz).drew
    refine Held.tk (v := .slice (some ⟨gt, 0, none⟩) 16 16) 0 (some 33) rfl (Held.y_slice rfl hsT) c1 ?_
    simp only [Act.put, Z1, Z2, Z3]
    refine Held.tk (v := .slice A2 n2 c2) 1 (some 34) rfl (Held.y_move rfl rfl) c1 ?_
    simp only [Act.put, Z1, Z2, Z3]
    refine Held.tk (v := .int .i64 (q : Int)) 2 (some 35) rfl (Held.y_move rfl rfl) c1 ?_
    simp only [Act.put, Z1, Z2, Z3]
    refine Held.tk (v := .slice A9 16 (c2 - q)) 3 (some 36) rfl (Held.y_slice rfl hslb) c1 ?_
    simp only [Act.put, Z1, Z2, Z3]
    refine Held.one 4 (by kernel_rfl) ?_
    by_cases heq : T = ys.drop q
    · refine Held.op_call 4 (some 37) 46 #[.slice (some ⟨gt, 0, none⟩) 16 16, .slice A9 16 (c2 - q)] rfl rfl rfl rfl (enters_of Tryz.func46 (by kernel_rfl) rfl) (by simp [Act.eval]) (equal_same wz.heap.size B2 (some ⟨gt, 0, none⟩) A9 16 16 16 (c2 - q) T (ys.drop q) wz.drew (iz.below c1) (bz.below (c1.mono (Nat.le_trans hB2 dz.size))) (by omega) (by omega) heq) ?_
      rintro e we ⟨rfl, hbe⟩
      have ce := c1.trans (hbe.mono c1.size)
      have de := dz.drew.trans (hbe.mono dz.drew.size)
      refine ⟨_, rfl, ce, ?_⟩
      simp only [Act.put, Z1, Z2, Z3]
      refine Held.tk (v := .bool false) 5 (some 38) rfl (Held.y_eqn rfl rfl rfl (by omega)) ce ?_
      simp only [Act.put, Z1, Z2, Z3]
      refine wpAnyH_done (by kernel_rfl) ?_ _
      have ho := HOP.out
      rw [if_pos heq] at ho
      have HO := Lib.hid ho
      clear ho heq
      go_wp2_with fail
      refine wp_region_held (S := fun W => Below wz.heap.size wz W) (by kernel_rfl) ?_
      change wpAnyH _ _ _ _ _ _ _ _ we.drew
      have y2 := ce.drew
      have d2 := de.drew
      refine Held.tk (v := .agg (arr .u8 key)) 0 (some 39) rfl (Held.y_load_Row (zs := key) rfl rfl Tryz.underlying22 size_32b HK.out (fun W hW => kz.below hW kz.lt)) y2 ?_
      simp only [Act.put, Z1, Z2, Z3]
      refine Held.tk (v := .agg (arr .u8 nonce)) 1 (some 40) rfl (Held.y_load_Row (zs := nonce) rfl rfl Tryz.underlying45 size_12b HN.out (fun W hW => nz.below hW nz.lt)) y2 ?_
      simp only [Act.put, Z1, Z2, Z3]
      refine Held.tk (v := .slice A2 n2 c2) 2 (some 41) rfl (Held.y_move rfl rfl) y2 ?_
      simp only [Act.put, Z1, Z2, Z3]
      refine Held.tk (v := .int .i64 (q : Int)) 3 (some 42) rfl (Held.y_move rfl rfl) y2 ?_
      simp only [Act.put, Z1, Z2, Z3]
      refine Held.tk (v := .slice A2 q c2) 4 (some 43) rfl (Held.y_slice rfl hslf) y2 ?_
      simp only [Act.put, Z1, Z2, Z3]
      refine Held.one 5 (by kernel_rfl) ?_
      refine Held.op_call 5 (some 44) 34 #[.agg (arr .u8 key), .agg (arr .u8 nonce), .int .u32 1, .slice A2 q c2] rfl rfl rfl rfl (enters_of Tryz.func34 (by kernel_rfl) rfl) (by simp [Act.eval]) (Cha.xor_any key nonce 1 B2 A2 q c2 (ys.take q) we.drew (hfr.below (d2.mono hB2)) (Nat.le_trans hB2 d2.size) hqc (by omega) HK.out hkb HN.out hnb ⟨by omega, by omega⟩ (hL.below (d2.mono hB0)).1) ?_
      rintro e wy ⟨Ay, cy, rfl, hcy, hcmy, oy, hby⟩
      have c3 := y2.trans (hby.mono y2.size)
      have d3 := d2.trans (hby.mono d2.size)
      refine ⟨_, rfl, c3, ?_⟩
      simp only [Act.put, Z1, Z2, Z3]
      refine Held.tk (v := .slice Ay q cy) 6 (some 8) rfl (Held.y_assign rfl rfl) c3 ?_
      simp only [Act.put, Z1, Z2, Z3]
      refine Held.tk (v := .int .i64 0) 7 (some 9) rfl (Held.y_assign rfl rfl) c3 ?_
      simp only [Act.put, Z1, Z2, Z3]
      refine wpAnyH_done (by kernel_rfl) ?_ _
      go_wp2_with fail
      go_ret2
      exact ⟨d3, .inr ⟨_, Ay, cy, HO.out, by rw [Cc.xors_length, HYQ.out], rfl, oy.less d2.size⟩⟩
    · refine Held.op_call 4 (some 37) 46 #[.slice (some ⟨gt, 0, none⟩) 16 16, .slice A9 16 (c2 - q)] rfl rfl rfl rfl (enters_of Tryz.func46 (by kernel_rfl) rfl) (by simp [Act.eval]) (equal_not wz.heap.size B2 (some ⟨gt, 0, none⟩) A9 16 16 16 (c2 - q) T (ys.drop q) wz.drew (iz.below c1) (bz.below (c1.mono (Nat.le_trans hB2 dz.size))) (by omega) (by omega) heq) ?_
      rintro e we ⟨rfl, hbe⟩
      have ce := c1.trans (hbe.mono c1.size)
      have de := dz.drew.trans (hbe.mono dz.drew.size)
      refine ⟨_, rfl, ce, ?_⟩
      simp only [Act.put, Z1, Z2, Z3]
      refine Held.tk (v := .bool true) 5 (some 38) rfl (Held.y_eqi rfl rfl rfl) ce ?_
      simp only [Act.put, Z1, Z2, Z3]
      refine wpAnyH_done (by kernel_rfl) ?_ _
      have ho := HOP.out
      rw [if_neg heq] at ho
      have HO := Lib.hid ho
      clear ho heq
      go_wp2_with fail
      go_ret2
      exact ⟨de, .inl ⟨HO.out, rfl⟩⟩
end Go.Proofs.YtjelacblnjbfgaaGreatDoor.Ae
namespace Go.Proofs.YtjelacblnjbfgaaGreatDoor.Rs
open Go.RowKit Go.ChangeShapes Go.WideShapes Mem Rc
theorem cells_four {w : World} {base : Nat} {a : Addr} {cs : List Value} (h : w.cells? base a 4 = some cs) : cs.length = 4 ∧ ∀ j, j < 4 → w.cell? (a.add j) = cs[j]? := by
  obtain ⟨h1, h2, h3⟩ := World.cells?_some h
  exact ⟨h2, h3⟩
section
variable {H : Type} {enc : TypeId × Value → H} {w : World} {base : Nat} {held : Bool}
theorem open_one {n : Nat} {cs : List Value} {x : DataW H × List MemPlace} (h : DataW.trod enc Tryz.prog w base (fun _ => true) held n 37 cs = some x) : ∃ r : R, cs = r.cells ∧ r.wf := by
  obtain ⟨f0, f1, f2, f3, hu, ⟨o0, t0⟩, ⟨o1, t1⟩, ⟨o2, t2⟩, ⟨o3, t3⟩⟩ := rec_fields
  obtain ⟨xs, m, _, _, hl, hxl, hel⟩ := DataW.trod_struct hu h
  have cb : Tryz.prog.cellsOf 4 = 1 := by kernel_rfl
  have ci : Tryz.prog.cellsOf 2 = 1 := by kernel_rfl
  have c4 : Tryz.prog.cellsOf 37 = 4 := by kernel_rfl
  rw [c4] at hl
  have hx4 : xs.length = 4 := hxl
  have e0 := hel 0 f0 rfl
  have e1 := hel 1 f1 rfl
  have e2 := hel 2 f2 rfl
  have e3 := hel 3 f3 rfl
  rw [o0, t0, cb] at e0
  rw [o1, t1, ci] at e1
  rw [o2, t2, ci] at e2
  rw [o3, t3, ci] at e3
  obtain ⟨z0, q0⟩ := field_bool (by omega) Tryz.underlying4 e0 (by simp [hx4])
  obtain ⟨z1, q1, w1⟩ := field_int (by omega) Tryz.underlying2 e1 (by simp [hx4])
  obtain ⟨z2, q2, w2⟩ := field_int (by omega) Tryz.underlying2 e2 (by simp [hx4])
  obtain ⟨z3, q3, w3⟩ := field_int (by omega) Tryz.underlying2 e3 (by simp [hx4])
  refine ⟨⟨z0, z1, z2, z3⟩, ?_, w1, w2, w3⟩
  apply List.ext_getElem?
  intro i
  match i with
  | 0 => exact q0
  | 1 => exact q1
  | 2 => exact q2
  | 3 => exact q3
  | i + 4 => rw [List.getElem?_eq_none (by omega), List.getElem?_eq_none (by simp [R.cells])]
set_option maxRecDepth 100000 in
theorem open_recs {A : Option Addr} {m c : Nat} {d : DataW H} {p : List MemPlace} (h : DataW.Trod enc Tryz.prog w base (fun _ => true) held 26 (.slice A m c) d p) : ∃ rs, Recs w w.heap.size A m rs ∧ m ≤ c ∧ c ≤ maxLen := by
  obtain ⟨fuel, hf⟩ := h
  simp only [Value.cells] at hf
  rcases DataW.trod_slice Tryz.underlying26 hf with ⟨hcs, _⟩ | ⟨a, len, cap, elems, rest, n, _, hcs, _, hb, hl, hm, hlen, hel, _, _⟩
  · simp at hcs
    obtain ⟨rfl, rfl, rfl⟩ := hcs
    exact ⟨[], Recs.nil _ _ _, Nat.le_refl _, by simp [maxLen]⟩
  · simp at hcs
    obtain ⟨rfl, rfl, rfl⟩ := hcs
    have c4 : Tryz.prog.cellsOf 37 = 4 := by kernel_rfl
    have each : ∀ i, i < m → ∃ r : R, r.wf ∧ ∀ j, j < 4 → w.cell? ((a.add (i * 4)).add j) = r.cells[j]? := fun i hi => by
      have hi' : i < elems.length := by rw [hlen]; exact hi
      have e := hel i hi
      rw [c4, List.getElem?_eq_getElem hi', Option.bind_eq_some_iff] at e
      obtain ⟨cs, hc, ht⟩ := e
      obtain ⟨r, rfl, hw⟩ := open_one ht
      exact ⟨r, hw, (cells_four hc).2⟩
    have hch : ∃ F : Nat → R, ∀ i, i < m → (F i).wf ∧ ∀ j, j < 4 → w.cell? ((a.add (i * 4)).add j) = (F i).cells[j]? :=
      ⟨fun i => if h : i < m then Classical.choose (each i h) else R0, fun i hi => by
        have := Classical.choose_spec (each i hi)
        simp only [hi, dif_pos]
        exact this⟩
    obtain ⟨F, hF⟩ := hch
    refine ⟨(List.range m).map F, ⟨by simp, fun r hr => ?_, fun h0 => ?_⟩, hl, hm⟩
    · obtain ⟨i, hi, rfl⟩ := List.mem_map.1 hr
      exact (hF i (List.mem_range.1 hi)).1
    · have h00 := (hF 0 h0).2 0 (by omega)
      have hsome : ∃ u, w.cell? (a.add 0) = some u := ⟨_, by simpa [R.cells, Addr.add] using h00⟩
      obtain ⟨u, hu⟩ := hsome
      obtain ⟨b, off, spot⟩ := a
      have hspot : spot = none := by simpa [Addr.add] using World.cell?_spot hu
      subst hspot
      have hlt : b < w.heap.size := by simpa [Addr.add] using World.block_lt_of_cell? w _ hu
      have ea : ∀ o j : Nat, (Addr.mk b o none).add j = ⟨b, o + j, none⟩ := fun o j => by unfold Addr.add; split <;> simp_all
      refine ⟨b, off, rfl, hlt, fun q v hv => ?_⟩
      have hq := (List.getElem?_eq_some_iff.1 hv).1
      rw [flat_length] at hq
      simp only [List.length_map, List.length_range] at hq
      have hv' := hv
      rw [show q = q / 4 * 4 + q % 4 by omega, flat_at _ (q / 4) (q % 4) (by omega) (by simp; omega)] at hv'
      have hg : ((List.range m).map F).getD (q / 4) R0 = F (q / 4) := by
        rw [List.getD_eq_getElem?_getD, List.getElem?_map, List.getElem?_range (by omega)]
        rfl
      rw [hg, ← (hF (q / 4) (by omega)).2 (q % 4) (by omega), ea, ea, Nat.add_assoc, show q / 4 * 4 + q % 4 = q by omega] at hv'
      exact hv'
end
end Go.Proofs.YtjelacblnjbfgaaGreatDoor.Rs
namespace Go.Proofs.YtjelacblnjbfgaaGreatDoor.Rs
open Go.RowKit Go.Shelf Go.Proofs.YtjelacblnjbfgaaGreatDoor Mem
attribute [local irreducible] wpList wpListIn Calls
end Go.Proofs.YtjelacblnjbfgaaGreatDoor.Rs
namespace Go.Proofs.YtjelacblnjbfgaaGreatDoor.Held
open Go.RowKit
section
variable {P : Program} {ops : Array Oper} {Q Q' : Exit → Act → World → Prop} {n : Nat} {r : Option Nat} {rest : List Oper} {o : Oper} {a : Act} {w : World}
theorem opIn_wide (ho : ∀ c, o.op ≠ .defer c) (hp : ∀ ch a w, ¬ Q' (.panic ch) a w) (hl : ¬ LetsOut Q') {K : Act → World → Prop} (h : o.wp P a w K Q') : o.wpIn (wideR r) n P a w K Q := by
  refine ⟨fun _ _ => trivial, ?_⟩
  rw [Oper.semAt_plain (wideR r) _ _ ho]
  unfold Oper.wp at h
  generalize (execOp a.eval o).run P w = x at h
  cases x with
  | ok y w' =>
    cases y with
    | value v => exact h
    | skip => exact h
    | «defer» d => exact h
    | enter f args =>
      refine ⟨fun hd => absurd (show false = true from hd) (by simp), (calls_wideR (r := r) h).mono fun e w'' he => ?_⟩
      cases e
      · exact he
      · exact (hp _ _ _ he).elim
      · exact (hl he).elim
    | row row args => exact ⟨fun hd => absurd (show false = true from hd) (by simp), rows_wideR h⟩
    | _ => exact h.elim
  | halt y w' =>
    cases y <;> first | exact h.elim | exact (hp _ _ _ h).elim
theorem wpListIn_one {F : Fence} (hF : F = wideR r) (ho : ∀ c, o.op ≠ .defer c) (h : wpList P ops (fun e a' w' => e = .normal ∧ wpListIn F n P ops Q rest a' w') [o] a w) : wpListIn F n P ops Q (o :: rest) a w := by
  subst hF
  unfold wpList at h
  unfold wpListIn
  split
  · rename_i hw
    simp only [hw, if_true] at h
    rcases h with h | ⟨_, a', w', hx⟩
    · refine Oper.wpIn_mono (fun a' w' h' => ?_) (opIn_wide ho (fun ch a w hx => by cases hx.1) (fun ⟨a, w, hx⟩ => by cases hx.1) h)
      exact h'.2
    · cases hx.1
  · rename_i hw
    simp only [hw] at h
    exact ⟨fun _ _ => trivial, h.2⟩
end
end Go.Proofs.YtjelacblnjbfgaaGreatDoor.Held
namespace Go.Proofs.YtjelacblnjbfgaaGreatDoor.Rs
open Go.RowKit Go.Shelf Go.Proofs.YtjelacblnjbfgaaGreatDoor Mem Held Go.Proofs.YtjelacblnjbfgaaGreatDoor.Range Rc
attribute [local go_sem] Oper.semAt_some
attribute [local irreducible] wpList wpListIn Calls
theorem bmay_any (size : Int) (w : World) : Calls Tryz.prog 24 #[.int .i64 size] w fun e w' => e = .returned (.bool (mayS size)) ∧ w = w' := by
  by_cases h1 : 1 ≤ size
  · by_cases h8 : size ≤ 8
    · have hm : mayS size = true := by simp [mayS, h1, h8]
      have HM := Lib.hid hm
      clear hm
      go_enter Tryz.func24, Tryz.ntmps24
      go_wp2_with fail
      go_ret
      exact ⟨Mem.ret_bool HM.out.symm, rfl⟩
    · have hm : mayS size = false := by simp [mayS, h8]
      have HM := Lib.hid hm
      clear hm
      go_enter Tryz.func24, Tryz.ntmps24
      go_wp2_with fail
      go_ret
      exact ⟨Mem.ret_bool HM.out.symm, rfl⟩
  · have hm : mayS size = false := by simp [mayS, h1]
    have HM := Lib.hid hm
    clear hm
    go_enter Tryz.func24, Tryz.ntmps24
    go_wp2_with fail
    go_ret
    exact ⟨Mem.ret_bool HM.out.symm, rfl⟩
theorem bplain_any (size : Int) (w : World) (h0 : 0 ≤ size) (h8 : size ≤ 8) : Calls Tryz.prog 18 #[.int .i64 size] w fun e w' => e = .returned (.int .i64 (32 * size)) ∧ w = w' := by
  go_enter Tryz.func18, Tryz.ntmps18
  go_wp2_with fail
  go_ret
  exact ⟨rfl, rfl⟩
set_option maxRecDepth 100000 in
set_option maxHeartbeats 4000000 in
theorem size_any (size : Int) (w : World) : Calls Tryz.prog 12 #[.int .i64 size] w fun e w' => e = .returned (.int .i64 (sizeV size)) ∧ Below w.heap.size w w' := by
  go_enter Tryz.func12, Tryz.ntmps12
  go_wp2_with fail
  all_goals
    refine (bplain_any _ w (by omega) (by omega)).mono ?_
    rintro e w1 ⟨rfl, rfl⟩
    go_wp2_with fail
    go_ret
    refine ⟨?_, Below.refl _ _⟩
    refine congrArg (fun z => Ending.returned (Value.int .i64 z)) ?_
    unfold sizeV
    omega
theorem filled_any (A : Option Addr) (n c : Nat) (size : Int) (w : World) :
    Calls Tryz.prog 32 #[.slice A n c, .int .i64 size] w fun e w' => ∃ bl bs : Nat, e = .returned (.func (.func 49) #[] #[.pointer (some ⟨bl, 0, none⟩), .pointer (some ⟨bs, 0, none⟩)]) ∧ Blk w' bl 26 #[.slice A n c] ∧ Blk w' bs 3 #[.int .i64 size] ∧ w.heap.size ≤ bl ∧ w.heap.size ≤ bs ∧ Below w.heap.size w w' := by
  go_enter Tryz.func32, Tryz.ntmps32
  go_wp2_with (first
    | (refine Held.wpList_box_cell (w := w) rfl 26 _ rfl (.slice A n c) rfl rfl ?_; intro u1 q1 g1 z1)
    | (refine Held.wpList_box_cell (w := u1) rfl 3 _ rfl (.int .i64 size) rfl rfl ?_; intro u2 q2 g2 z2))
  go_ret
  exact ⟨_, _, rfl, Held.keep_cells q1 g2 (by simp), q2, Nat.le_refl _, g1.size, ((Below.refl _ w).grown g1 (Nat.le_refl _) (by simp)).grown g2 g1.size (by simp)⟩
def EncR (x : R) (B0 : Nat) (W : World) (args : Array Value) : Prop := args = #[.agg #[.bool x.d, .int .i64 x.k, .int .i64 x.v, .int .i64 x.s]]
theorem Recs.only {S : Nat → Prop} {w w' : World} {B n : Nat} {A : Option Addr} {rs : List R} (h : Recs w B A n rs) (ho : Only S w w') (hS : ∀ b, b < B → ¬ S b) : Recs w' B A n rs :=
  ⟨h.1, h.2.1, fun hn => by
    obtain ⟨b, off, e, hb, hc⟩ := h.2.2 hn
    exact ⟨b, off, e, hb, fun j v hv => ho.cell (p := ⟨b, off + j, none⟩) (hS b hb) (hc j v hv)⟩⟩
theorem take_snoc (xs : List R) {k : Nat} (hk : k < xs.length) : xs.take k ++ [xs.getD k R0] = xs.take (k + 1) := by
  rw [List.take_succ_eq_append_getElem hk, List.getD_eq_getElem?_getD, List.getElem?_eq_getElem hk]
  rfl
end Go.Proofs.YtjelacblnjbfgaaGreatDoor.Rs
namespace Go.Proofs.YtjelacblnjbfgaaGreatDoor.Rs
open Go.RowKit Go.Shelf Go.Proofs.YtjelacblnjbfgaaGreatDoor Mem Held Go.Proofs.YtjelacblnjbfgaaGreatDoor.Range Rc
attribute [local go_sem] Oper.semAt_some
attribute [local irreducible] wpList wpListIn Calls
theorem taken_any (A : Option Addr) (n c : Nat) (w : World) :
    Calls Tryz.prog 47 #[.slice A n c] w fun e w' => ∃ bx : Nat, e = .returned (.func (.func 71) #[] #[.pointer (some ⟨bx, 0, none⟩)]) ∧ Blk w' bx 27 #[.slice A n c] ∧ w.heap.size ≤ bx ∧ Below w.heap.size w w' := by
  go_enter Tryz.func47, Tryz.ntmps47
  go_wp2_with (refine Held.wpList_box_cell (w := w) rfl 27 _ rfl (.slice A n c) rfl rfl ?_; intro u1 q1 g1 z1)
  go_ret
  exact ⟨_, rfl, q1, Nat.le_refl _, (Below.refl _ w).grown g1 (Nat.le_refl _) (by simp)⟩
def atT (zs : List Int) (size k : Nat) : Option (Array Value × Int) := if k < size then some (takenC (word zs k), takenE (word zs k)) else none
def encT (x : Array Value × Int) : Array Value := #[.agg x.1, .int .i64 x.2]
set_option maxRecDepth 100000 in
set_option maxHeartbeats 4000000 in
theorem taken_stop (N bx : Nat) (S : Nat → Prop) (B b off n c : Nat) (zs : List Int) (size : Nat) (w : World) (hbx : w.cell? ⟨bx, 0, none⟩ = some (.slice (some ⟨b, off, none⟩) n c)) (hSx : ¬ S bx) (h : Ints w .u8 B (some ⟨b, off, none⟩) n zs) (hSB : ∀ b, b < B → ¬ S b) (hb : b < B) (hB : B ≤ w.heap.size) (hn : 32 * size = n) (hc : n ≤ c) (h8 : size ≤ 8) :
    SeqStop Fence.wide N Tryz.prog 71 #[.pointer (some ⟨bx, 0, none⟩)] encT (Only S) (atT zs size) w := by
  intro l J Jx Nb W hW hJ hJx hN hY h0
  have kbx := (hW.cell (p := ⟨bx, 0, none⟩) (World.block_lt_of_cell? w _ hbx)).trans hbx
  have kv : IntsN W .u8 S (some ⟨b, off, none⟩) n zs := IntsN.of (h.below (hW.mono hB)) hSB
  have hq : (n : Int) / 32 = (size : Int) := by omega
  have hqt : Int.tdiv (n : Int) 32 = (size : Int) := by rw [Int.tdiv_eq_ediv_of_nonneg (by omega)]; exact hq
  have HN := Lib.hid hn
  clear hn hbx h hW
  refine callsIn_of_wp Tryz.func71 rfl trivial ?_ rfl
  simp only [Tryz.ntmps71, List.size_toArray, List.length_cons, List.length_nil, Nat.reduceAdd, Nat.reduceSub, Array.replicate_succ, Array.replicate_zero, List.push_toArray, List.append_toArray, List.nil_append, List.cons_append]
  gi_wp2_with fail
  gi_loopw [7] (fun i wr => ∃ k : Nat, k ≤ size ∧ i = .int .i64 k ∧ J k wr ∧ Only S W wr) (fun i _ => size - (intOf i).toNat)
  case atStart => exact ⟨0, by omega, rfl, h0, Only.refl _ _⟩
  case round =>
    obtain ⟨k, hk, rfl, Jk, ok⟩ := hrel
    by_cases hlt : k < size
    · have kb := ok.cell (p := ⟨bx, 0, none⟩) hSx kbx
      have iw := ints_mid ((kv.only ok).ints) (o := 32 * k) (m := 32) (by have := HN.out; omega) (by omega)
      have hlt' : (k : Int) < (size : Int) := by omega
      have hk0 : (0 : Int) ≤ (k : Int) := by omega
      have hkn : 32 * k + 32 ≤ n := by have := HN.out; omega
      have hsl : ∀ W, (Instr.sliceAt 27 (.slice (some ⟨b, off, none⟩) n c) (some (.int .i64 (32 * (k : Int)))) (some (.int .i64 (32 * ((k : Int) + 1)))) none).run Tryz.prog W = .ok (.slice (some ⟨b, off + 32 * k, none⟩) 32 (c - 32 * k)) W := fun W => by
        have := run_midO (P := Tryz.prog) Tryz.underlying27 Rc.size_u8 b off n (cap := c) (l := 32 * k) (h := 32 * k + 32) (by omega) (by omega) (by omega) W
        rwa [show 32 * k + 32 - 32 * k = 32 by omega, show ((32 * k + 32 : Nat) : Int) = 32 * ((k : Int) + 1) by omega, show ((32 * k : Nat) : Int) = 32 * (k : Int) by omega] at this
      have hc32 : 32 ≤ c - 32 * k := by omega
      have hY := hY k (takenC (word zs k), takenE (word zs k))
      rw [atT, if_pos hlt] at hY
      have HT := Lib.hid (show takenC ((zs.drop (32 * k)).take 32) = takenC (word zs k) from rfl)
      have HTE := Lib.hid (show takenE ((zs.drop (32 * k)).take 32) = takenE (word zs k) from rfl)
      generalize takenC (word zs k) = C at hY HT
      generalize takenE (word zs k) = E at hY HTE
      clear kbx
      gi_wp2_with (refine Held.wpListIn_one (r := none) rfl (by intro c e; cases e) ?_; refine wpList_run (w := wr) rfl (v := .slice (some ⟨b, off + 32 * k, none⟩) 32 (c - 32 * k)) (Held.y_slice (S := fun _ => True) rfl hsl _ trivial) ?_; refine wpList_nil ⟨rfl, ?_⟩)
      refine ⟨trivial, fun h => (by cases h), ?_⟩
      refine (callsIn_wide.2 (take_any wr.heap.size (some ⟨b, off + 32 * k, none⟩) 32 (c - 32 * k) _ wr iw (Nat.le_refl _) hc32 (by omega))).mono ?_
      rintro e w3 ⟨rfl, b3⟩
      rw [HT.out, HTE.out]
      obtain ⟨fn, tmps, assign, body, hy, hR⟩ := hY w3 (hJ k wr w3 none Jk (grown_of_below b3 none) (fun r e => by cases e)) trivial
      have hy : (Instr.yield l #[.agg C, .int .i64 E]).run Tryz.prog w3 = .ok (.round l fn tmps assign body) w3 := hy
      clear iw hsl
      gi_wp2_with fail
      refine ⟨fun h => (by cases h), ?_⟩
      refine hR.mono ?_
      rintro e W4 (⟨rfl, J4, o4⟩ | ⟨rfl, Jx4⟩)
      · have o5 := (ok.trans (Only.of_below b3)).trans o4
        clear hR hy o4 b3 ok Jk kb HT HTE
        gi_wp2_with fail
        go_roundw
        case rel => exact ⟨k + 1, by omega, by go_num, J4, o5⟩
        case measure => simp [intOf]; omega
      · gi_wp2_with fail
        exact bodyPost_ret (results_none rfl _ _ _) rfl ⟨⟨_, rfl⟩, .inr ⟨_, Jx4⟩⟩
    · have hks : k = size := by omega
      subst hks
      gi_wp2_with fail
      go_end0
      exact ⟨⟨_, rfl⟩, .inl ⟨k, by rw [atT, if_neg (Nat.lt_irrefl _)], Jk⟩⟩
end Go.Proofs.YtjelacblnjbfgaaGreatDoor.Rs
namespace Go.Proofs.YtjelacblnjbfgaaGreatDoor.Rs
open Go.RowKit Go.Shelf Go.Proofs.YtjelacblnjbfgaaGreatDoor Mem Held Go.Proofs.YtjelacblnjbfgaaGreatDoor.Range Rc
attribute [local go_sem] Oper.semAt_some
attribute [local irreducible] wpList wpListIn Calls
set_option maxRecDepth 100000 in
set_option maxHeartbeats 4000000 in
theorem filled_give (N bl bs : Nat) (S : Nat → Prop) (B : Nat) (A : Option Addr) (n c : Nat) (rs : List R) (size : Nat) (w : World) (hbl : w.cell? ⟨bl, 0, none⟩ = some (.slice A n c)) (hbs : w.cell? ⟨bs, 0, none⟩ = some (.int .i64 (size : Int))) (hSl : ¬ S bl) (hSs : ¬ S bs) (h : Recs w B A n rs) (hB : B ≤ w.heap.size) (hSB : ∀ b, b < B → ¬ S b) (hn : n ≤ size) (h8 : size ≤ 8) :
    SeqGive Fence.wide N Tryz.prog 49 #[.pointer (some ⟨bl, 0, none⟩), .pointer (some ⟨bs, 0, none⟩)] EncR (Only S) (pad rs size) w := by
  intro l J W hW hJ hY h0
  have kbl := (hW.cell (p := ⟨bl, 0, none⟩) (World.block_lt_of_cell? w _ hbl)).trans hbl
  have kbs := (hW.cell (p := ⟨bs, 0, none⟩) (World.block_lt_of_cell? w _ hbs)).trans hbs
  have kv := h.below (hW.mono hB)
  have hBW : B ≤ W.heap.size := Nat.le_trans hB hW.size
  have HL := Lib.hid h.1
  have HP := Lib.hid (pad_length (rs := rs) (size := size) (by rw [h.1]; exact hn))
  clear hbl hbs h
  refine callsIn_of_wp Tryz.func49 rfl trivial ?_ rfl
  simp only [Tryz.ntmps49, List.size_toArray, List.length_cons, List.length_nil, Nat.reduceAdd, Nat.reduceSub, Array.replicate_succ, Array.replicate_zero, List.push_toArray, List.append_toArray, List.nil_append, List.cons_append]
  gi_wp2_with fail
  gi_loopw [8] (fun i wr => ∃ k : Nat, k ≤ n ∧ i = .int .i64 k ∧ J ((pad rs size).take k) wr ∧ Only S W wr) (fun i _ => n - (intOf i).toNat)
  case atStart => exact ⟨0, by omega, rfl, by simpa using h0, Only.refl _ _⟩
  case round =>
    obtain ⟨k, hk, rfl, Jk, ok⟩ := hrel
    by_cases hlt : k < n
    · obtain ⟨b, off, rfl, hb, hx⟩ := (kv.only ok hSB).at_ hlt
      have hbw : b < wr.heap.size := Nat.lt_of_lt_of_le hb (Nat.le_trans hBW ok.size)
      have HPR := Lib.hid (take_snoc (pad rs size) (k := k) (by rw [HP.out]; omega))
      have hpre : (pad rs size).take k ++ [(pad rs size).getD k R0] <+: pad rs size := by rw [HPR.out]; exact List.take_prefix _ _
      rw [← pad_lt (rs := rs) (size := size) (by rw [HL.out]; exact hlt)] at hx
      generalize (pad rs size).getD k R0 = x at hx HPR hpre
      have hlt' : (k : Int) < (n : Int) := by omega
      have hk0 : (0 : Int) ≤ (k : Int) := by omega
      gi_wp2_with (first
        | (refine Held.wpListIn_one (r := none) rfl (by intro c e; cases e) ?_; refine wpList_run (w := wr) rfl (v := .pointer (some ⟨b, off + k * 4, none⟩)) (Held.y_addr (S := fun _ => True) rfl rfl rfl (run_addr_of (P := Tryz.prog) 26 37 b off n c k 4 .i64 Tryz.underlying26 (by kernel_rfl) hlt) _ trivial) ?_; refine wpList_nil ⟨rfl, ?_⟩)
        | (refine Held.wpListIn_one (r := none) rfl (by intro c e; cases e) ?_; refine wpList_run (w := wr) rfl (v := .agg #[.bool x.d, .int .i64 x.k, .int .i64 x.v, .int .i64 x.s]) (y_load_range (S := fun W => W = wr) (n := 4) (cs := x.cells) rfl rfl Tryz.underlying37 rfl (by kernel_rfl) rfl (fun W hW => by rw [hW]; exact hx) _ rfl) ?_; refine wpList_nil ⟨rfl, ?_⟩)
        | (refine Held.wpListIn_one (r := none) rfl (by intro c e; cases e) ?_; refine wpList_alloc_blk (w := wr) rfl 37 rfl _ zero_rec ?_; intro w2 q2 g2 z2; refine wpList_nil ⟨rfl, ?_⟩)
        | (refine Held.wpListIn_one (r := none) rfl (by intro c e; cases e) ?_; refine wpList_store_blk (w := w2) rfl 37 _ _ rfl wr.heap.size 4 rfl 37 _ #[.bool x.d, .int .i64 x.k, .int .i64 x.v, .int .i64 x.s] rfl q2 info_rec rfl rfl (by kernel_rfl) ?_; intro w3 q3 g3 z3; refine wpList_nil ⟨rfl, ?_⟩; have b3 : Below wr.heap.size wr w3 := ((Below.refl _ wr).grown g2 (Nat.le_refl _) (by simp)).grown g3 g2.size (fun r e => by cases e; exact Nat.le_refl _); clear g2 g3 z2 z3 q2)
        | (refine Held.wpListIn_one (r := none) rfl (by intro c e; cases e) ?_; refine wpList_load_blk (w := w3) rfl 37 _ rfl wr.heap.size 4 rfl 37 _ q3 _ Tryz.underlying37 rfl (by kernel_rfl) rfl ?_; refine wpList_nil ⟨rfl, ?_⟩; obtain ⟨fn, tmps, assign, body, hy, hR⟩ := hY ((pad rs size).take k) x #[.agg #[.bool x.d, .int .i64 x.k, .int .i64 x.v, .int .i64 x.s]] wr w3 Jk (grown_of_below b3 none) rfl hpre))
      refine ⟨fun h => (by cases h), ?_⟩
      refine hR.mono ?_
      rintro e W4 ⟨rfl, J4, o4⟩
      rw [HPR.out] at J4
      have o5 := (ok.trans (Only.of_below b3)).trans o4
      clear hR hy hpre o4 b3 q3 hx ok Jk
      gi_wp2_with fail
      go_roundw
      case rel => exact ⟨k + 1, by omega, by go_num, J4, o5⟩
      case measure => simp [intOf]; omega
    · have hkn : k = n := by omega
      subst hkn
      have kl2 := ok.cell (p := ⟨bl, 0, none⟩) hSl kbl
      have ks2 := ok.cell (p := ⟨bs, 0, none⟩) hSs kbs
      have hsub : IntKind.i64.wrap ((size : Int) - (k : Int)) = ((size - k : Nat) : Int) := by rw [IntKind.wrap_i64]; omega
      clear kbl kbs kv
      gi_wp2_with fail
      gi_loopw [21] (fun i wr => ∃ j : Nat, j ≤ size - k ∧ i = .int .i64 j ∧ J ((pad rs size).take (k + j)) wr ∧ Only S W wr) (fun i _ => size - k - (intOf i).toNat)
      case atStart => exact ⟨0, by omega, rfl, Jk, ok⟩
      case round =>
        clear kl2 ks2 Jk ok
        obtain ⟨j, hj, rfl, Jj, ok⟩ := hrel
        by_cases hlt2 : j < size - k
        · have hlt' : (j : Int) < ((size - k : Nat) : Int) := by omega
          have hj0 : (0 : Int) ≤ (j : Int) := by omega
          have HPR := Lib.hid (take_snoc (pad rs size) (k := k + j) (by rw [HP.out]; omega))
          have hpre : (pad rs size).take (k + j) ++ [(pad rs size).getD (k + j) R0] <+: pad rs size := by rw [HPR.out]; exact List.take_prefix _ _
          rw [pad_ge (rs := rs) (size := size) (i := k + j) (by rw [HL.out]; omega) (by omega)] at HPR hpre
          gi_wp2_with fail
          refine ⟨trivial, fun h => (by cases h), ?_⟩
          refine (callsIn_wide.2 (dead_any wr)).mono ?_
          rintro e w3 ⟨rfl, b3⟩
          obtain ⟨fn, tmps, assign, body, hy, hR⟩ := hY ((pad rs size).take (k + j)) RD #[.agg #[.bool true, .int .i64 0, .int .i64 0, .int .i64 0]] wr w3 Jj (grown_of_below b3 none) rfl hpre
          gi_wp2_with fail
          refine ⟨fun h => (by cases h), ?_⟩
          refine hR.mono ?_
          rintro e W4 ⟨rfl, J4, o4⟩
          rw [HPR.out] at J4
          have o5 := (ok.trans (Only.of_below b3)).trans o4
          clear hR hy hpre o4 b3 ok Jj
          gi_wp2_with fail
          go_roundw
          case rel => exact ⟨j + 1, by omega, by go_num, J4, o5⟩
          case measure => simp [intOf]; omega
        · have hjk : j = size - k := by omega
          subst hjk
          rw [List.take_of_length_le (by rw [HP.out]; omega)] at Jj
          gi_wp2_with fail
          go_end0
          exact ⟨⟨_, rfl⟩, Jj⟩
end Go.Proofs.YtjelacblnjbfgaaGreatDoor.Rs
