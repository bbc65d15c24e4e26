/-
  The document's own Open (package dominoref07) by its contract: what was sealed is turned back where the tag is the right one; too much, too little and another tag are refused.
  The iterator over numbers of package keys, by its contract: it hands out each number of its list, in order.
  Numbers of the call's own whose row may bear a mark behind its cells (what a text is turned into): one number appended.
  Bytes of the call's own in a variable that is appended to, in a range over a function: what a step keeps of them.
  The function laid of package keys by its contract: bytes, and behind them the eight bytes of each number.
-/
import Derived.Test.YtjelacblnjbfgaaGreatDoorB18
import Derived.Test.YtjelacblnjbfgaaGreatDoorB5
import Derived.Test.YtjelacblnjbfgaaGreatDoorB2
import Derived.Test.YtjelacblnjbfgaaGreatDoorB8
import Derived.Test.YtjelacblnjbfgaaGreatDoorB9
import Derived.Test.YtjelacblnjbfgaaGreatDoorB11
import Derived.Test.YtjelacblnjbfgaaGreatDoorB10
import Derived.Test.YtjelacblnjbfgaaGreatDoorB1
import Derived.Test.YtjelacblnjbfgaaGreatDoorB6
import Derived.Lib.ConvBytes
set_option linter.unusedVariables false
namespace Go.Proofs.YtjelacblnjbfgaaGreatDoor.Ae
open Go.RowKit Go.Shelf Go.Proofs.YtjelacblnjbfgaaGreatDoor Mem Help Go.Proofs.YtjelacblnjbfgaaGreatDoor.Sum Po
attribute [local irreducible] wpList wpListIn
theorem y_nes {P : Program} {S : World → Prop} {ρ : Operand → Value} {o : Oper} {t ty : TypeId} {x y : Operand} {s s' : ByteArray} {r : Bool} (ho : o.op = .binOp .neq t x y ty) (hx : ρ x = .string s) (hy : ρ y = .string s') (ht : P.underlying t = some .string) (hr : (s.toList != s'.toList) = r) :
    ∀ w, S w → (execOp ρ o).run P w = .ok (.value (.bool r)) w := Held.y_bin ho hx hy (fun w => by simp [eqGuard]) (fun w => by subst hr; simp [binOp, Op.stringOp, bne])
set_option maxRecDepth 100000 in
set_option maxHeartbeats 4000000 in
theorem ropen_short (key nonce : List Int) (A : Option Addr) (n c : Nat) (A2 : Option Addr) (n2 c2 : Nat) (w : World) (hkb : Bs key) (hnb : Bs nonce) (hn : n ≤ 65536) (hn2 : n2 < 16) :
    Calls Tryz.prog 28 #[.agg (arr .u8 key), .agg (arr .u8 nonce), .slice A n c, .slice A2 n2 c2] w fun e w' => e = .returned (.tuple #[.slice none 0 0, .int .i64 3]) ∧ Below w.heap.size w w' := by
  have hwr : IntKind.i64.wrap ((n2 : Int) - 16) = (n2 : Int) - 16 := by rw [IntKind.wrap_i64]; omega
  · have h1' : ¬ (65536 : Int) < (n : Int) := by omega
    have h2' : ¬ (65536 : Int) < (n2 : Int) - 16 := by omega
    have h3' : (n2 : Int) - 16 < 0 := by omega
    go_enter Tryz.func28, Tryz.ntmps28
    go_wp2_with (first
      | (refine wpList_box_Row (w := w) rfl 22 _ rfl .u8 key rfl (bs_wf hkb) ?_; intro w1 r1 g1 z1)
      | (refine wpList_box_Row (w := w1) rfl 45 _ rfl .u8 nonce rfl (bs_wf hnb) ?_; intro w2 r2 g2 z2))
    have b2 : Below w.heap.size w w2 := ((Below.refl _ w).grown g1 (Nat.le_refl _) (by simp)).grown g2 g1.size (by simp)
    go_ret2
    exact ⟨rfl, b2⟩
set_option maxRecDepth 100000 in
set_option maxHeartbeats 8000000 in
theorem ropen_any (key nonce : List Int) (B : Nat) (A : Option Addr) (n c : Nat) (xs : List Int) (B2 : Nat) (A2 : Option Addr) (n2 c2 q : Nat) (ys : List Int) (w : World) (hk : key.length = 32) (hkb : Bs key) (hnl : nonce.length = 12) (hnb : Bs nonce)
    (h : Ints w .u8 B A n xs) (hB : B ≤ w.heap.size) (hn : n ≤ 65536) (h2 : Ints w .u8 B2 A2 n2 ys) (hB2 : B2 ≤ w.heap.size) (hf : Flat A2 c2) (hc2 : n2 ≤ c2) (hq : n2 = q + 16) (hn2 : q ≤ 65536) :
    Calls Tryz.prog 28 #[.agg (arr .u8 key), .agg (arr .u8 nonce), .slice A n c, .slice A2 n2 c2] w fun e w' => Below w.heap.size w w' ∧
      ((opened key nonce xs ys = none ∧ e = .returned (.tuple #[.slice none 0 0, .int .i64 6])) ∨
        (∃ p A' c', opened key nonce xs ys = some p ∧ p.length = q ∧ e = .returned (.tuple #[.slice A' q c', .int .i64 0]) ∧ Mem.Own w' w.heap.size 5 .u8 (.slice A' q c') p)) := by
  have HOP : Hid (opened key nonce xs ys = if aeTag key nonce xs (ys.take q) = ys.drop q then some (Cc.xors key nonce 1 (ys.take q)) else none) := Lib.hid (by
    rw [opened, show ys.length - 16 = q by rw [h2.1]; omega])
  have h1' : ¬ (65536 : Int) < (n : Int) := by omega
  have h2' : ¬ (65536 : Int) < (q : Int) := by omega
  have h3' : ¬ (q : Int) < 0 := by omega
  have hsub : (n2 : Int) - 16 = (q : Int) := by omega
  have HK := Lib.hid hk
  have HN := Lib.hid hnl
  have HQ := Lib.hid hq
  have hqc : q ≤ c2 := by omega
  have hqn : q ≤ n2 := by omega
  have hfr := h2.front hqn
  have hslf := fun W : World => run_front (P := Tryz.prog) (n := n2) (cap := c2) (h := q) Tryz.underlying27 size_1b hf hqc W
  obtain ⟨A9, hslb, _, hbk⟩ := run_back (P := Tryz.prog) Tryz.underlying27 size_1b hf hc2 hqn h2
  rw [show n2 - q = 16 by omega] at hslb hbk
  have HYQ := Lib.hid (show (ys.take q).length = q from hfr.1)
  clear hk hnl hq
  go_enter Tryz.func28, Tryz.ntmps28
  go_wp2_with (first
    | (refine wpList_box_Row (w := w) rfl 22 _ rfl .u8 key rfl (bs_wf hkb) ?_; intro w1 r1 g1 z1)
    | (refine wpList_box_Row (w := w1) rfl 45 _ rfl .u8 nonce rfl (bs_wf hnb) ?_; intro w2 r2 g2 z2; have r12 := r1.grown g2 (by simp)))
  obtain ⟨gn, hgn⟩ : ∃ g, w1.heap.size = g := ⟨_, rfl⟩
  have hg0 : w.heap.size < gn := by have := r1.lt; omega
  have b2 : Below w.heap.size w w2 := ((Below.refl _ w).grown g1 (Nat.le_refl _) (by simp)).grown g2 g1.size (by simp)
  rw [hgn] at r2 ⊢
  have l2 := r2.lt
  have l1 := r12.lt
  clear hgn r1 g1 g2 z1 z2 w1
  refine wp_region_held (S := fun W => Below w2.heap.size w2 W) (by kernel_rfl) ?_
  change wpAnyH _ _ _ _ _ _ _ _ w2.drew
  have c0 := (Below.refl w2.heap.size w2).drew
  have d0 := b2.drew
  refine Held.tk (v := .agg (arr .u8 key)) 0 (some 26) rfl (Held.y_load_Row (zs := key) rfl rfl Tryz.underlying22 size_32b HK.out (fun W hW => r12.below hW r12.lt)) c0 ?_
  simp only [Act.put, Z1, Z2, Z3]
  refine Held.tk (v := .agg (arr .u8 nonce)) 1 (some 27) rfl (Held.y_load_Row (zs := nonce) rfl rfl Tryz.underlying45 size_12b HN.out (fun W hW => r2.below hW r2.lt)) c0 ?_
  simp only [Act.put, Z1, Z2, Z3]
  refine Held.tk (v := .slice A n c) 2 (some 28) rfl (Held.y_move rfl rfl) c0 ?_
  simp only [Act.put, Z1, Z2, Z3]
  refine Held.tk (v := .slice A2 n2 c2) 3 (some 29) rfl (Held.y_move rfl rfl) c0 ?_
  simp only [Act.put, Z1, Z2, Z3]
  refine Held.tk (v := .int .i64 (q : Int)) 4 (some 30) rfl (Held.y_move rfl rfl) c0 ?_
  simp only [Act.put, Z1, Z2, Z3]
  refine Held.tk (v := .slice A2 q c2) 5 (some 31) rfl (Held.y_slice rfl hslf) c0 ?_
  simp only [Act.put, Z1, Z2, Z3]
  have HTL := Lib.hid (aeTag_length key nonce xs (ys.take q))
  have HTB := Lib.hid (aeTag_bytes key nonce xs (ys.take q))
  refine Held.two 6 7 (by kernel_rfl) ?_ ?_
  · refine Held.op_call 6 (some 32) 43 #[.agg (arr .u8 key), .agg (arr .u8 nonce), .slice A n c, .slice A2 q c2] rfl rfl rfl rfl (enters_of Tryz.func43 (by kernel_rfl) rfl) (by simp [Act.eval]) (rtag_ae key nonce B A n c xs B2 A2 q c2 (ys.take q) w2.drew HK.out hkb HN.out hnb (h.below (d0.mono hB)) (Nat.le_trans hB d0.size) (by omega) (hfr.below (d0.mono hB2)) (Nat.le_trans hB2 d0.size) (by omega)) ?_
    rintro e wA ⟨rfl, hbwA⟩
    have cA := c0.trans (hbwA.mono c0.size)
    have dA := d0.trans (hbwA.mono d0.size)
    refine ⟨_, rfl, cA, ?_⟩
    simp only [Act.put, Z1, Z2, Z3]
    refine Held.one 7 (by kernel_rfl) ?_
    refine Held.op_alloc_Row 7 (some 11) 58 .u8 16 rfl rfl rfl rfl zero_16b ?_
    intro gt wB ra hbwB hgt
    have cB := cA.trans (hbwB.mono cA.size)
    have dB := dA.trans (hbwB.mono dA.size)
    have hgz : w2.heap.size ≤ gt := Nat.le_trans cA.size hgt.out
    refine ⟨cB, ?_⟩
    simp only [Act.put, Z1, Z2, Z3]
    refine Held.one 8 (by kernel_rfl) ?_
    refine Held.op_store_RowL 8 none 58 gt 58 .u8 _ (aeTag key nonce xs (ys.take q)) rfl rfl rfl rfl rfl rfl ra 16 info_16b HTL.out (by simp) (bs_wf HTB.out) ?_
    intro wz rz gz
    have cz := cB.grown gz cB.size (fun r e => by cases e; exact hgz)
    have dz := dB.grown gz dB.size (fun r e => by cases e; exact Nat.le_trans b2.size hgz)
    clear cA dA cB dB gz ra
    refine ⟨cz, ?_⟩
    simp only [Act.put]
    refine wpAnyH_done (by kernel_rfl) ?_ _
    have kz := r12.below cz r12.lt
    have nz := r2.below cz r2.lt
    have fz := hfr.below (dz.mono hB2)
    have bz := hbk.below (dz.mono hB2)
    have hz := Nat.le_trans b2.size cz.size
    clear cz hgz hgt
    obtain ⟨T, hT⟩ : ∃ T, aeTag key nonce xs (ys.take q) = T := ⟨_, rfl⟩
    rw [hT] at HTL HTB HOP rz
    clear hT
    have iz : Ints wz .u8 wz.heap.size (some ⟨gt, 0, none⟩) 16 T := by
      have := rz.ints (n := 16) (by rw [HTL.out]; omega)
      rwa [List.take_of_length_le (by rw [HTL.out]; omega)] at this
    have hsT : ∀ W, (Instr.sliceAt 58 (.pointer (some ⟨gt, 0, none⟩)) none none none).run Tryz.prog W = .ok (.slice (some ⟨gt, 0, none⟩) 16 16) W := fun W => run_slice_arr_all (P := Tryz.prog) _ 5 16 _ W Tryz.underlying58 (by kernel_rfl) (by omega)
    have hin := Lib.hid (text_inj iz.2.1 bz.2.1)
    go_wp2_with fail
    refine wp_region_held (S := fun W => Below wz.heap.size wz W) (by kernel_rfl) ?_
    change wpAnyH _ _ _ _ _ _ _ _ wz.drew
    have c1 := (Below.refl wz.heap.size wz).drew
    refine Held.tk (v := .slice (some ⟨gt, 0, none⟩) 16 16) 0 (some 33) rfl (Held.y_slice rfl hsT) c1 ?_
    simp only [Act.put, Z1, Z2, Z3]
    refine Held.tk (v := .string (strOfNums T)) 1 (some 34) rfl (Held.y_text rfl rfl Tryz.underlying27 Tryz.underlying5 Tryz.underlying9 (fun W hW => iz.below hW)) c1 ?_
    simp only [Act.put, Z1, Z2, Z3]
    refine Held.tk (v := .slice A2 n2 c2) 2 (some 35) rfl (Held.y_move rfl rfl) c1 ?_
    simp only [Act.put, Z1, Z2, Z3]
    refine Held.tk (v := .int .i64 (q : Int)) 3 (some 36) rfl (Held.y_move rfl rfl) c1 ?_
    simp only [Act.put, Z1, Z2, Z3]
    refine Held.tk (v := .slice A9 16 (c2 - q)) 4 (some 37) rfl (Held.y_slice rfl hslb) c1 ?_
    simp only [Act.put, Z1, Z2, Z3]
    refine Held.tk (v := .string (strOfNums (ys.drop q))) 5 (some 38) rfl (Held.y_text rfl rfl Tryz.underlying27 Tryz.underlying5 Tryz.underlying9 (fun W hW => bz.below (hW.mono (Nat.le_trans hB2 dz.size)))) c1 ?_
    simp only [Act.put, Z1, Z2, Z3]
    by_cases heq : T = ys.drop q
    · refine Held.tk (v := .bool false) 6 (some 39) rfl (y_nes rfl rfl rfl Tryz.underlying9 (by rw [heq]; simp)) c1 ?_
      simp only [Act.put, Z1, Z2, Z3]
      refine wpAnyH_done (by kernel_rfl) ?_ _
      have ho := HOP.out
      rw [if_pos heq] at ho
      have HO := Lib.hid ho
      clear ho heq hin
      go_wp2_with fail
      refine wp_region_held (S := fun W => Below wz.heap.size wz W) (by kernel_rfl) ?_
      change wpAnyH _ _ _ _ _ _ _ _ wz.drew.drew
      have y2 := c1.drew
      have d2 := dz.drew.drew
      refine Held.tk (v := .agg (arr .u8 key)) 0 (some 40) rfl (Held.y_load_Row (zs := key) rfl rfl Tryz.underlying22 size_32b HK.out (fun W hW => kz.below hW kz.lt)) y2 ?_
      simp only [Act.put, Z1, Z2, Z3]
      refine Held.tk (v := .agg (arr .u8 nonce)) 1 (some 41) rfl (Held.y_load_Row (zs := nonce) rfl rfl Tryz.underlying45 size_12b HN.out (fun W hW => nz.below hW nz.lt)) y2 ?_
      simp only [Act.put, Z1, Z2, Z3]
      refine Held.tk (v := .slice A2 n2 c2) 2 (some 42) rfl (Held.y_move rfl rfl) y2 ?_
      simp only [Act.put, Z1, Z2, Z3]
      refine Held.tk (v := .int .i64 (q : Int)) 3 (some 43) rfl (Held.y_move rfl rfl) y2 ?_
      simp only [Act.put, Z1, Z2, Z3]
      refine Held.tk (v := .slice A2 q c2) 4 (some 44) rfl (Held.y_slice rfl hslf) y2 ?_
      simp only [Act.put, Z1, Z2, Z3]
      refine Held.one 5 (by kernel_rfl) ?_
      refine Held.op_call 5 (some 45) 42 #[.agg (arr .u8 key), .agg (arr .u8 nonce), .int .u32 1, .slice A2 q c2] rfl rfl rfl rfl (enters_of Tryz.func42 (by kernel_rfl) rfl) (by simp [Act.eval]) (Cha.rxor_any key nonce 1 B2 A2 q c2 (ys.take q) wz.drew.drew (hfr.below (d2.mono hB2)) (Nat.le_trans hB2 d2.size) (by omega) HK.out hkb HN.out hnb ⟨by omega, by omega⟩) ?_
      rintro e wy ⟨Ay, cy, rfl, hcy, oy, hby⟩
      have c3 := y2.trans (hby.mono y2.size)
      have d3 := d2.trans (hby.mono d2.size)
      refine ⟨_, rfl, c3, ?_⟩
      simp only [Act.put, Z1, Z2, Z3]
      refine Held.tk (v := .slice Ay q cy) 6 (some 8) rfl (Held.y_assign rfl rfl) c3 ?_
      simp only [Act.put, Z1, Z2, Z3]
      refine Held.tk (v := .int .i64 0) 7 (some 9) rfl (Held.y_assign rfl rfl) c3 ?_
      simp only [Act.put, Z1, Z2, Z3]
      refine wpAnyH_done (by kernel_rfl) ?_ _
      go_wp2_with fail
      go_ret2
      exact ⟨d3, .inr ⟨_, Ay, cy, HO.out, by rw [Cc.xors_length, HYQ.out], rfl, oy.less d2.size⟩⟩
    · refine Held.tk (v := .bool true) 6 (some 39) rfl (y_nes rfl rfl rfl Tryz.underlying9 (by simpa using fun e => heq (hin.out.1 e))) c1 ?_
      simp only [Act.put, Z1, Z2, Z3]
      refine wpAnyH_done (by kernel_rfl) ?_ _
      have ho := HOP.out
      rw [if_neg heq] at ho
      have HO := Lib.hid ho
      clear ho heq hin
      go_wp2_with fail
      go_ret2
      exact ⟨dz.drew, .inl ⟨HO.out, rfl⟩⟩
  · refine Held.op_alloc_Row 7 (some 11) 58 .u8 16 rfl rfl rfl rfl zero_16b ?_
    intro gt wA ra hbwA hgt
    have cA := c0.trans (hbwA.mono c0.size)
    have dA := d0.trans (hbwA.mono d0.size)
    have hgz : w2.heap.size ≤ gt := Nat.le_trans c0.size hgt.out
    refine ⟨cA, ?_⟩
    simp only [Act.put, Z1, Z2, Z3]
    refine Held.one 6 (by kernel_rfl) ?_
    refine Held.op_call 6 (some 32) 43 #[.agg (arr .u8 key), .agg (arr .u8 nonce), .slice A n c, .slice A2 q c2] rfl rfl rfl rfl (enters_of Tryz.func43 (by kernel_rfl) rfl) (by simp [Act.eval]) (rtag_ae key nonce B A n c xs B2 A2 q c2 (ys.take q) wA HK.out hkb HN.out hnb (h.below (dA.mono hB)) (Nat.le_trans hB dA.size) (by omega) (hfr.below (dA.mono hB2)) (Nat.le_trans hB2 dA.size) (by omega)) ?_
    rintro e wB ⟨rfl, hbwB⟩
    have cB := cA.trans (hbwB.mono cA.size)
    have dB := dA.trans (hbwB.mono dA.size)
    have ra := ra.below hbwB ra.lt
    refine ⟨_, rfl, cB, ?_⟩
    simp only [Act.put, Z1, Z2, Z3]
    refine Held.one 8 (by kernel_rfl) ?_
    refine Held.op_store_RowL 8 none 58 gt 58 .u8 _ (aeTag key nonce xs (ys.take q)) rfl rfl rfl rfl rfl rfl ra 16 info_16b HTL.out (by simp) (bs_wf HTB.out) ?_
    intro wz rz gz
    have cz := cB.grown gz cB.size (fun r e => by cases e; exact hgz)
    have dz := dB.grown gz dB.size (fun r e => by cases e; exact Nat.le_trans b2.size hgz)
    clear cA dA cB dB gz ra
    refine ⟨cz, ?_⟩
    simp only [Act.put]
    refine wpAnyH_done (by kernel_rfl) ?_ _
    have kz := r12.below cz r12.lt
    have nz := r2.below cz r2.lt
    have fz := hfr.below (dz.mono hB2)
    have bz := hbk.below (dz.mono hB2)
    have hz := Nat.le_trans b2.size cz.size
    clear cz hgz hgt
    obtain ⟨T, hT⟩ : ∃ T, aeTag key nonce xs (ys.take q) = T := ⟨_, rfl⟩
    rw [hT] at HTL HTB HOP rz
    clear hT
    have iz : Ints wz .u8 wz.heap.size (some ⟨gt, 0, none⟩) 16 T := by
      have := rz.ints (n := 16) (by rw [HTL.out]; omega)
      rwa [List.take_of_length_le (by rw [HTL.out]; omega)] at this
    have hsT : ∀ W, (Instr.sliceAt 58 (.pointer (some ⟨gt, 0, none⟩)) none none none).run Tryz.prog W = .ok (.slice (some ⟨gt, 0, none⟩) 16 16) W := fun W => run_slice_arr_all (P := Tryz.prog) _ 5 16 _ W Tryz.underlying58 (by kernel_rfl) (by omega)
    have hin := Lib.hid (text_inj iz.2.1 bz.2.1)
    go_wp2_with fail
    refine wp_region_held (S := fun W => Below wz.heap.size wz W) (by kernel_rfl) ?_
    change wpAnyH _ _ _ _ _ _ _ _ wz.drew
    have c1 := (Below.refl wz.heap.size wz).drew
    refine Held.tk (v := .slice (some ⟨gt, 0, none⟩) 16 16) 0 (some 33) rfl (Held.y_slice rfl hsT) c1 ?_
    simp only [Act.put, Z1, Z2, Z3]
    refine Held.tk (v := .string (strOfNums T)) 1 (some 34) rfl (Held.y_text rfl rfl Tryz.underlying27 Tryz.underlying5 Tryz.underlying9 (fun W hW => iz.below hW)) c1 ?_
    simp only [Act.put, Z1, Z2, Z3]
    refine Held.tk (v := .slice A2 n2 c2) 2 (some 35) rfl (Held.y_move rfl rfl) c1 ?_
    simp only [Act.put, Z1, Z2, Z3]
    refine Held.tk (v := .int .i64 (q : Int)) 3 (some 36) rfl (Held.y_move rfl rfl) c1 ?_
    simp only [Act.put, Z1, Z2, Z3]
    refine Held.tk (v := .slice A9 16 (c2 - q)) 4 (some 37) rfl (Held.y_slice rfl hslb) c1 ?_
    simp only [Act.put, Z1, Z2, Z3]
    refine Held.tk (v := .string (strOfNums (ys.drop q))) 5 (some 38) rfl (Held.y_text rfl rfl Tryz.underlying27 Tryz.underlying5 Tryz.underlying9 (fun W hW => bz.below (hW.mono (Nat.le_trans hB2 dz.size)))) c1 ?_
    simp only [Act.put, Z1, Z2, Z3]
    by_cases heq : T = ys.drop q
    · refine Held.tk (v := .bool false) 6 (some 39) rfl (y_nes rfl rfl rfl Tryz.underlying9 (by rw [heq]; simp)) c1 ?_
      simp only [Act.put, Z1, Z2, Z3]
      refine wpAnyH_done (by kernel_rfl) ?_ _
      have ho := HOP.out
      rw [if_pos heq] at ho
      have HO := Lib.hid ho
      clear ho heq hin
      go_wp2_with fail
      refine wp_region_held (S := fun W => Below wz.heap.size wz W) (by kernel_rfl) ?_
      change wpAnyH _ _ _ _ _ _ _ _ wz.drew.drew
      have y2 := c1.drew
      have d2 := dz.drew.drew
      refine Held.tk (v := .agg (arr .u8 key)) 0 (some 40) rfl (Held.y_load_Row (zs := key) rfl rfl Tryz.underlying22 size_32b HK.out (fun W hW => kz.below hW kz.lt)) y2 ?_
      simp only [Act.put, Z1, Z2, Z3]
      refine Held.tk (v := .agg (arr .u8 nonce)) 1 (some 41) rfl (Held.y_load_Row (zs := nonce) rfl rfl Tryz.underlying45 size_12b HN.out (fun W hW => nz.below hW nz.lt)) y2 ?_
      simp only [Act.put, Z1, Z2, Z3]
      refine Held.tk (v := .slice A2 n2 c2) 2 (some 42) rfl (Held.y_move rfl rfl) y2 ?_
      simp only [Act.put, Z1, Z2, Z3]
      refine Held.tk (v := .int .i64 (q : Int)) 3 (some 43) rfl (Held.y_move rfl rfl) y2 ?_
      simp only [Act.put, Z1, Z2, Z3]
      refine Held.tk (v := .slice A2 q c2) 4 (some 44) rfl (Held.y_slice rfl hslf) y2 ?_
      simp only [Act.put, Z1, Z2, Z3]
      refine Held.one 5 (by kernel_rfl) ?_
      refine Held.op_call 5 (some 45) 42 #[.agg (arr .u8 key), .agg (arr .u8 nonce), .int .u32 1, .slice A2 q c2] rfl rfl rfl rfl (enters_of Tryz.func42 (by kernel_rfl) rfl) (by simp [Act.eval]) (Cha.rxor_any key nonce 1 B2 A2 q c2 (ys.take q) wz.drew.drew (hfr.below (d2.mono hB2)) (Nat.le_trans hB2 d2.size) (by omega) HK.out hkb HN.out hnb ⟨by omega, by omega⟩) ?_
      rintro e wy ⟨Ay, cy, rfl, hcy, oy, hby⟩
      have c3 := y2.trans (hby.mono y2.size)
      have d3 := d2.trans (hby.mono d2.size)
      refine ⟨_, rfl, c3, ?_⟩
      simp only [Act.put, Z1, Z2, Z3]
      refine Held.tk (v := .slice Ay q cy) 6 (some 8) rfl (Held.y_assign rfl rfl) c3 ?_
      simp only [Act.put, Z1, Z2, Z3]
      refine Held.tk (v := .int .i64 0) 7 (some 9) rfl (Held.y_assign rfl rfl) c3 ?_
      simp only [Act.put, Z1, Z2, Z3]
      refine wpAnyH_done (by kernel_rfl) ?_ _
      go_wp2_with fail
      go_ret2
      exact ⟨d3, .inr ⟨_, Ay, cy, HO.out, by rw [Cc.xors_length, HYQ.out], rfl, oy.less d2.size⟩⟩
    · refine Held.tk (v := .bool true) 6 (some 39) rfl (y_nes rfl rfl rfl Tryz.underlying9 (by simpa using fun e => heq (hin.out.1 e))) c1 ?_
      simp only [Act.put, Z1, Z2, Z3]
      refine wpAnyH_done (by kernel_rfl) ?_ _
      have ho := HOP.out
      rw [if_neg heq] at ho
      have HO := Lib.hid ho
      clear ho heq hin
      go_wp2_with fail
      go_ret2
      exact ⟨dz.drew, .inl ⟨HO.out, rfl⟩⟩
end Go.Proofs.YtjelacblnjbfgaaGreatDoor.Ae
namespace Go.Proofs.YtjelacblnjbfgaaGreatDoor.Ky
open Go.RowKit Go.Shelf Go.Proofs.YtjelacblnjbfgaaGreatDoor Mem Help Go.Proofs.YtjelacblnjbfgaaGreatDoor.Sum Po Go.Proofs.YtjelacblnjbfgaaGreatDoor.Range
attribute [local go_sem] Oper.semAt_some
attribute [local irreducible] wpList wpListIn
theorem order_any (A : Option Addr) (m c : Nat) (w : World) :
    Calls Tryz.prog 39 #[.slice A m c] w fun e w' => e = .returned (.func (.func 62) #[] #[.pointer (some ⟨w.heap.size, 0, none⟩)]) ∧ w' = w.alloc (.cells #[.slice A m c] 96) := by
  go_enter Tryz.func39, Tryz.ntmps39
  go_wp2
  go_ret
  exact ⟨rfl, rfl⟩
theorem order_prefix (zs : List Int) {k : Nat} (hk : k < zs.length) : zs.take k ++ [zs.getD k 0] = zs.take (k + 1) := by
  rw [List.take_succ_eq_append_getElem hk, List.getD_eq_getElem?_getD, List.getElem?_eq_getElem hk]
  rfl
def Num (x : Int) (B0 : Nat) (W : World) (args : Array Value) : Prop := args = #[.int .u64 x]
set_option maxRecDepth 100000 in
set_option maxHeartbeats 2000000 in
theorem order_give (n bx : Nat) (S : Nat → Prop) (A : Option Addr) (m c : Nat) (zs : List Int) (w : World) (hbx : w.cell? ⟨bx, 0, none⟩ = some (.slice A m c)) (hbS : ¬ S bx) (h : IntsN w .u64 S A m zs) (hm : m ≤ 1073741824) :
    SeqGive Fence.wide n Tryz.prog 62 #[.pointer (some ⟨bx, 0, none⟩)] Num (Only S) zs w := by
  intro l J W hW hJ hY h0
  have kbx := (hW.cell (p := ⟨bx, 0, none⟩) (World.block_lt_of_cell? w _ hbx)).trans hbx
  have kv := h.only (Only.of_below hW)
  have HL := Lib.hid h.1
  have hmi : (m : Int) ≤ 1073741824 := by omega
  clear hbx h
  refine callsIn_of_wp Tryz.func62 rfl trivial ?_ rfl
  simp only [Tryz.ntmps62, List.size_toArray, List.length_cons, List.length_nil, Nat.reduceAdd, Nat.reduceSub, Array.replicate_succ, Array.replicate_zero, List.push_toArray, List.append_toArray, List.nil_append, List.cons_append]
  gi_wp2_with fail
  gi_loopw [7] (fun i wr => ∃ k : Nat, k ≤ m ∧ i = .int .i64 k ∧ J (zs.take k) wr ∧ Only S W wr) (fun i _ => m - (intOf i).toNat)
  case atStart => exact ⟨0, by omega, rfl, by simpa using h0, Only.refl _ _⟩
  case round =>
    obtain ⟨k, hk, rfl, Jk, ok⟩ := hrel
    by_cases hlt : k < m
    · obtain ⟨b, off, rfl, hbS', hc⟩ := (kv.only ok).2.2 (by omega)
      have hck := hc k hlt
      have hkl : k < zs.length := by rw [HL.out]; exact hlt
      have HP := Lib.hid (order_prefix zs hkl)
      have hpre : zs.take k ++ [zs.getD k 0] <+: zs := by rw [HP.out]; exact List.take_prefix _ _
      generalize zs.getD k 0 = v at hck HP hpre
      obtain ⟨fn, tmps, assign, body, hy, hR⟩ := hY (zs.take k) v #[.int .u64 v] wr wr Jk (World.grownBy.refl _ _) rfl hpre
      have hlt' : (k : Int) < (m : Int) := by omega
      have hk0 : (0 : Int) ≤ (k : Int) := by omega
      clear hpre hc
      gi_wp2_with fail
      refine ⟨fun h => (by cases h), ?_⟩
      refine hR.mono ?_
      rintro e W4 ⟨rfl, J4, o4⟩
      rw [HP.out] at J4
      gi_wp2_with fail
      go_roundw
      case rel => exact ⟨k + 1, by omega, by go_num, J4, ok.trans o4⟩
      case measure => simp [intOf]; omega
    · have hkm : k = m := by omega
      subst hkm
      rw [List.take_of_length_le (by rw [HL.out]; omega)] at Jk
      gi_wp2_with fail
      go_end0
      exact ⟨⟨_, rfl⟩, Jk⟩
end Go.Proofs.YtjelacblnjbfgaaGreatDoor.Ky
namespace Go.Proofs.YtjelacblnjbfgaaGreatDoor.Mem
open Go.RowKit
def OwnM (w : World) (base : Nat) (t : TypeId) (k : IntKind) (v : Value) (zs : List Int) : Prop :=
  (∀ z ∈ zs, (Lit.int k z).wf = true) ∧ ((v = .slice none 0 0 ∧ zs = []) ∨ ∃ (g cap : Nat) (cur : Array Value) (fz : Nat × Nat), v = .slice (some ⟨g, 0, none⟩) zs.length cap ∧ base ≤ g ∧ w.heap[g]? = some (.cells cur t fz) ∧ (fz = (0, 0) ∨ cap ≤ fz.1) ∧
    zs.length ≤ cap ∧ cap ≤ maxLen ∧ cur.size = cap ∧ cur.toList.take zs.length = zs.map (Value.int k))
section
variable {w w' : World} {base : Nat} {t : TypeId} {k : IntKind} {v : Value} {zs : List Int}
theorem OwnM.nil (w : World) (base : Nat) (t : TypeId) (k : IntKind) : OwnM w base t k (.slice none 0 0) [] := ⟨by simp, .inl ⟨rfl, rfl⟩⟩
theorem OwnM.of (h : Own w base t k v zs) : OwnM w base t k v zs := by
  refine ⟨h.1, ?_⟩
  rcases h.2.2 with ⟨e, h0⟩ | ⟨g, cap, cur, e, hb, hg, hn, hm, hs, ht⟩
  · exact .inl ⟨e, List.eq_nil_of_length_eq_zero h0⟩
  · exact .inr ⟨g, cap, cur, (0, 0), e, hb, hg, .inl rfl, hn, hm, by simpa using hs, by simpa using ht⟩
theorem OwnM.lt (h : OwnM w base t k v zs) : ∀ b, v.ownBlock = some b → base ≤ b ∧ b < w.heap.size := fun b hb => by
  rcases h.2 with ⟨rfl, _⟩ | ⟨g, cap, cur, fz, rfl, hg, hc, _⟩
  · cases hb
  · cases hb
    exact ⟨hg, (Array.getElem?_eq_some_iff.1 hc).1⟩
theorem OwnM.obj (h : OwnM w base t k v zs) {b : Nat} (hb : v.ownBlock = some b) : ∃ cs fz, w.heap[b]? = some (.cells cs t fz) := by
  rcases h.2 with ⟨rfl, _⟩ | ⟨g, cap, cur, fz, rfl, hg, hc, _⟩
  · cases hb
  · cases hb
    exact ⟨_, _, hc⟩
theorem OwnM.ne (h : OwnM w base t k v zs) {row : Option Nat} (hr : ∀ r, row = some r → ∃ o : Obj, w.heap[r]? = some o ∧ o.isCells = false) : v.ownBlock = none ∨ v.ownBlock ≠ row := by
  cases hb : v.ownBlock with
  | none => exact .inl rfl
  | some b =>
    refine .inr fun e => ?_
    obtain ⟨o, ho, hc⟩ := hr b e.symm
    obtain ⟨cs, fz, h1⟩ := h.obj hb
    rw [h1] at ho
    cases ho
    cases hc
theorem OwnM.kept {row : Option Nat} (h : OwnM w base t k v zs) (hg : w.grownBy w' row) (hne : v.ownBlock = none ∨ v.ownBlock ≠ row) : OwnM w' base t k v zs := by
  refine ⟨h.1, ?_⟩
  rcases h.2 with h0 | ⟨g, cap, cur, fz, rfl, hb, hc, rest⟩
  · exact .inl h0
  · refine .inr ⟨g, cap, cur, fz, rfl, hb, (hg.block g (Array.getElem?_eq_some_iff.1 hc).1 ?_).trans hc, rest⟩
    rcases hne with h1 | h1
    · cases h1
    · exact h1
theorem OwnM.below (h : OwnM w base t k v zs) (hb : Below w.heap.size w w') : OwnM w' base t k v zs := h.kept (grown_of_below hb none) (by cases v.ownBlock <;> simp)
theorem OwnM.less (h : OwnM w base t k v zs) {b : Nat} (hb : b ≤ base) : OwnM w b t k v zs := by
  refine ⟨h.1, ?_⟩
  rcases h.2 with h0 | ⟨g, cap, cur, fz, rfl, hg, rest⟩
  · exact .inl h0
  · exact .inr ⟨g, cap, cur, fz, rfl, Nat.le_trans hb hg, rest⟩
theorem OwnM.form (h : OwnM w base t k v zs) : ∃ A c, v = .slice A zs.length c ∧ zs.length ≤ c ∧ c ≤ maxLen ∧ Ints w k w.heap.size A zs.length zs := by
  rcases h.2 with ⟨rfl, rfl⟩ | ⟨g, cap, cur, fz, rfl, hg, hc, hf, hn, hm, hs, ht⟩
  · exact ⟨none, 0, rfl, Nat.le_refl _, by simp [maxLen], Ints.nil _ _ _ _⟩
  · refine ⟨some ⟨g, 0, none⟩, cap, rfl, hn, hm, rfl, h.1, fun _ => ⟨g, 0, rfl, (Array.getElem?_eq_some_iff.1 hc).1, fun i hi => ?_⟩⟩
    rw [Nat.zero_add, cell_of_row w g i cur t fz hc]
    have e : cur.toList[i]? = (cur.toList.take zs.length)[i]? := by rw [List.getElem?_take, if_pos hi]
    rw [Array.getElem?_toList] at e
    rw [e, ht, List.getElem?_map, List.getD_eq_getElem?_getD, List.getElem?_eq_getElem hi]
    rfl
theorem OwnM.ints {A : Option Addr} {n c : Nat} (h : OwnM w base t k (.slice A n c) zs) (hl : zs.length = n) : Ints w k w.heap.size A n zs := by
  obtain ⟨A', c', e, _, _, hi⟩ := h.form
  injection e with e1 e2 _
  subst e1
  rw [hl] at hi
  exact hi
theorem OwnM.head {A : Option Addr} {n c : Nat} (h : OwnM w base t k (.slice A n c) zs) (h0 : 0 < n) : ∃ g, A = some ⟨g, 0, none⟩ ∧ base ≤ g ∧ w.rangeAt g 0 (zs.map (Value.int k)) := by
  obtain ⟨A', c', e, h1, h2, hi⟩ := h.form
  rcases h.2 with ⟨e', _⟩ | ⟨g, cap, cur, fz, e', hg, _⟩
  · cases e'; omega
  · injection e' with e1 e2 e3
    injection e with f1 f2 f3
    subst e1
    subst f1
    refine ⟨g, rfl, hg, fun j v hv => ?_⟩
    have hj : j < zs.length := by simpa using (List.getElem?_eq_some_iff.1 hv).1
    obtain ⟨b, off, q, _, hc⟩ := hi.at_ hj
    cases q
    rw [hc, ← hv]
    simp [List.getD_eq_getElem?_getD, hj]
theorem OwnM.caps {A : Option Addr} {n c : Nat} (h : OwnM w base t k (.slice A n c) zs) : zs.length = n ∧ n ≤ c ∧ c ≤ maxLen := by
  obtain ⟨A', c', e, h1, h2, _⟩ := h.form
  injection e with e1 e2 e3
  subst e2
  subst e3
  exact ⟨rfl, h1, h2⟩
end
theorem addr_add (g o j : Nat) : (Addr.mk g o none).add j = ⟨g, o + j, none⟩ := by unfold Addr.add; split <;> simp_all
theorem run_append_fits_one {P : Program} (w : World) (ts ty e : TypeId) (k : IntKind) (i : TypeInfo) (ht : P.underlying ts = some (.slice e)) (hi : P.info? e = some i) (hs : i.size = 1) (g n cap : Nat) (cur : Array Value) (fz : Nat × Nat)
    (hg : w.heap[g]? = some (.cells cur e fz)) (hf : fz = (0, 0) ∨ cap ≤ fz.1) (hc : cur.size = cap) (hn : n + 1 ≤ cap) (ad : Addr) (c : Nat) (z : Int) (hz : w.cell? ad = some (.int k z)) (had : ad.add 0 = ad) :
    (Builtin.append_ #[ts, ts] ty #[.slice (some ⟨g, 0, none⟩) n cap, .slice (some ad) 1 c]).run P w = .ok (.slice (some ⟨g, 0, none⟩) (n + 1) cap) (w.setCell ⟨g, n, none⟩ (.int k z)) := by
  have hl := run_firstCells_some (P := P) w 1 1 ad 1 c [.int k z] rfl (fun j u hu => by
    cases j with
    | zero => simp at hu; subst hu; rw [had]; exact hz
    | succ j => simp at hu)
  have hcell : w.cell? ⟨g, n, none⟩ = some (cur[n]'(by omega)) := by rw [cell_of_row w g n cur e fz hg, Array.getElem?_eq_getElem]
  have hfr : w.frozen? ⟨g, n, none⟩ = false := by
    simp only [World.frozen?, hg]
    rcases hf with rfl | h
    · simp
    · simp only [Bool.and_eq_false_iff, decide_eq_false_iff_not]
      left
      omega
  simp [Builtin.append_, run_underlying ht, sizeOf, typeInfo, hi, hs, Builtin.lenOf, hn, hl, addr_add, storeCells, run_store P w ⟨g, n, none⟩ (.int k z) _ rfl, hcell, hfr]
theorem run_append_oneM {P : Program} (w : World) (base : Nat) (ts ty e : TypeId) (k : IntKind) (bytes : Nat) (ht : P.underlying ts = some (.slice e))
    (hinfo : (P.info? e).map (fun i => (i.zero, i.size, i.bytes)) = some (some (.int k 0), 1, bytes)) (v : Value) (zs : List Int) (hown : OwnM w base e k v zs)
    (p c : Nat) (z : Int) (hr : w.cell? ⟨p, 0, none⟩ = some (.int k z)) (hwf : (Lit.int k z).wf = true) (hlen : zs.length + 1 ≤ 17592186044416) (hby : bytes ≤ 8) (hbase : base ≤ w.heap.size) :
    ∃ v' w', (Builtin.append_ #[ts, ts] ty #[v, .slice (some ⟨p, 0, none⟩) 1 c]).run P w = .ok v' w' ∧ OwnM w' base e k v' (zs ++ [z]) ∧ w.grownBy w' v.ownBlock ∧
      (v'.ownBlock = v.ownBlock ∨ v'.ownBlock = some w.heap.size) := by
  have hI : Ints w k w.heap.size (some ⟨p, 0, none⟩) 1 [z] := ⟨rfl, fun y hy => by rw [List.mem_singleton.1 hy]; exact hwf, fun _ => ⟨p, 0, rfl, World.block_lt_of_cell? w _ hr, fun i hi => by
    obtain rfl : i = 0 := by omega
    exact hr⟩⟩
  have hwf' : ∀ y ∈ zs ++ [z], (Lit.int k y).wf = true := fun y hy => by
    rcases List.mem_append.1 hy with h | h
    · exact hown.1 y h
    · rw [List.mem_singleton.1 h]; exact hwf
  rcases hown.2 with ⟨rfl, rfl⟩ | ⟨g, cap, cur, fz, rfl, hb, hg, hf, hn, hm, hs, htake⟩
  · obtain ⟨v', w', h1, h2, h3, h4⟩ := run_append_ints (P := P) w base ts ty e k bytes ht hinfo _ [] (Own.nil w base e k) w.heap.size _ 1 c [z] hI (by simp) hby hbase
    exact ⟨v', w', h1, OwnM.of h2, h3, h4⟩
  · obtain ⟨i, hi, hz, hsz, hbb⟩ := info_parts hinfo
    by_cases hroom : zs.length + 1 ≤ cap
    · refine ⟨_, _, run_append_fits_one w ts ty e k i ht hi hsz g zs.length cap cur fz hg hf hs hroom ⟨p, 0, none⟩ c z hr (addr_add _ _ _), ⟨hwf', .inr ⟨g, cap, cur.setIfInBounds zs.length (.int k z), fz, by simp, hb, ?_, hf, by simpa using hroom, hm, by simpa using hs, ?_⟩⟩, grown_setCell w g _ _, .inl rfl⟩
      · simp [World.setCell, Array.getElem?_modify, hg]
      · rw [List.length_append, List.length_singleton, Array.toList_setIfInBounds, List.take_succ_eq_append_getElem (by simp; omega), List.take_set_of_le (Nat.le_refl _), htake]
        simp
    · have holds : ∀ j u, (zs.map (Value.int k))[j]? = some u → w.cell? ((⟨g, 0, none⟩ : Addr).add j) = some u := fun j u hu => by
        have hj : j < zs.length := by simpa using (List.getElem?_eq_some_iff.1 hu).1
        rw [addr_add, Nat.zero_add, cell_of_row w g j cur e fz hg, ← Array.getElem?_toList, ← hu, ← htake, List.getElem?_take, if_pos hj]
      have hr2 := run_append_grow (P := P) w ts ty e i (.int k 0) ht hi hz ⟨g, 0, none⟩ zs.length cap (zs.map (Value.int k)) (by simp [hsz]) holds ⟨p, 0, none⟩ 1 c [.int k z] (by simp [hsz]) (fun j u hu => by
        cases j with
        | zero => simp at hu; subst hu; rw [addr_add]; exact hr
        | succ j => simp at hu) (by omega) (by omega) (growslice_fits (by omega) (by rw [hbb]; exact Nat.le_trans (Nat.mul_le_mul hlen hby) (by omega)))
      have hge := grownCap_ge w (zs.length + 1) cap e
      have hcm : grownCap w (zs.length + 1) cap e ≤ maxLen := grownCap_le_maxLen w (zs.length + 1) cap e (by simp only [maxLen]; omega)
      refine ⟨_, _, hr2, ⟨hwf', .inr ⟨w.heap.size, _, _, (0, 0), by simp, hbase, heap_alloc_new w.drew _, .inl rfl, by simpa using hge, hcm, ?_, ?_⟩⟩, ⟨rfl, rfl, rfl, by simp, fun k hk _ => Below.heap_alloc w.drew _ k hk⟩, .inr rfl⟩
      · simp only [Array.size_append, List.size_toArray, size_zeroCells, List.length_map, List.length_singleton, Value.cells]
        simp
        omega
      · simp only [Array.toList_append, List.append_assoc, List.length_append, List.length_singleton]
        rw [← List.append_assoc, List.take_left' (by simp)]
        simp
theorem own_text (w : World) (e : TypeId) (s : ByteArray) (zs : List Int) (hs : s.data.toList.map (fun b => (b.toNat : Int)) = zs) (hm : s.size ≤ 1048576) : OwnM (Lib.bytesWorld w e s) w.heap.size e .u8 (.slice (some ⟨w.heap.size, 0, none⟩) s.size (grownCap w s.size 0 e)) zs := by
  have hl : zs.length = s.size := by rw [← hs, List.length_map]; rfl
  have hge := grownCap_ge w s.size 0 e
  have hsz : (Lib.bytesCells w e s).size = grownCap w s.size 0 e := by
    simp only [Lib.bytesCells, Array.size_append, Array.size_map, Array.size_replicate]
    have : s.data.size = s.size := rfl
    omega
  refine ⟨fun z hz => ?_, .inr ⟨w.heap.size, grownCap w s.size 0 e, Lib.bytesCells w e s, ((Lib.bytesCells w e s).size, (Lib.bytesCells w e s).size + 1), by rw [hl], Nat.le_refl _, ?_, .inr (by simp [hsz]), by rw [hl]; exact hge, grownCap_le_maxLen w s.size 0 e (by simp only [maxLen]; omega), hsz, ?_⟩⟩
  · rw [← hs] at hz
    obtain ⟨b, _, rfl⟩ := List.mem_map.1 hz
    have := b.toNat_lt
    simp [Lit.wf, IntKind.min, IntKind.max, IntKind.signed, IntKind.bits]
    omega
  · simp [Lib.bytesWorld, World.freeze, World.alloc, World.drew, -World.alloc_eq, -World.drew_eq, Array.getElem_modify]
  · rw [hl]
    simp only [Lib.bytesCells, Array.toList_append, Array.toList_map, ← hs]
    rw [List.take_left' (by rw [List.length_map]; rfl), List.map_map]
    rfl
end Go.Proofs.YtjelacblnjbfgaaGreatDoor.Mem
namespace Go.Proofs.YtjelacblnjbfgaaGreatDoor.Ky
open Go.RowKit Go.Shelf Go.Proofs.YtjelacblnjbfgaaGreatDoor Mem Help Go.Proofs.YtjelacblnjbfgaaGreatDoor.Sum Po Go.Proofs.YtjelacblnjbfgaaGreatDoor.Range
theorem digits_snoc : ∀ (k : Nat) (x : Int), digits x (k + 1) = digits x k ++ [x / 2 ^ (8 * k) % 256]
  | 0, x => by simp [digits]
  | k + 1, x => by
    rw [digits, digits_snoc k (x / 256), digits, List.cons_append]
    congr 2
    rw [show (2 : Int) ^ (8 * (k + 1)) = 256 * 2 ^ (8 * k) by rw [show 8 * (k + 1) = 8 * k + 8 by omega, Int.pow_add]; omega, Int.ediv_ediv_of_nonneg (by omega)]
theorem eights_snoc (pre : List Int) (x : Int) : eights (pre ++ [x]) = eights pre ++ digits x 8 := by simp [eights]
def Turns (lb : Nat) (O : Option Nat) (b : Nat) : Prop := lb ≤ b ∨ O = some b
structure Buf (w : World) (B lb : Nat) (O : Option Nat) (v : Value) (zs : List Int) (W : World) : Prop where
  le : B ≤ lb
  cell : W.heap[lb]? = some (.cells #[v] 27 (0, 0))
  own : OwnM W B 5 .u8 v zs
  free : ∀ b, v.ownBlock = some b → b ≠ lb ∧ Turns lb O b
  below : Below B w W
section
variable {w W W' : World} {B lb : Nat} {O : Option Nat} {v : Value} {zs : List Int}
theorem Buf.low (h : Buf w B lb O v zs W) : lb < W.heap.size := (Array.getElem?_eq_some_iff.1 h.cell).1
theorem Buf.keep (h : Buf w B lb O v zs W) {row : Option Nat} (hg : W.grownBy W' row) (hr : ∀ r, row = some r → B ≤ r ∧ ∃ o : Obj, W.heap[r]? = some o ∧ o.isCells = false) : Buf w B lb O v zs W' :=
  ⟨h.le, Held.keep_cells h.cell hg (Held.ne_of_cells h.cell (fun r e => (hr r e).2)), h.own.kept hg (h.own.ne (fun r e => (hr r e).2)), h.free, h.below.grown hg (Nat.le_trans h.le (Nat.le_of_lt h.low)) (fun r e => (hr r e).1)⟩
theorem Buf.grow (h : Buf w B lb O v zs W) (hg : W.grownBy W' none) : Buf w B lb O v zs W' := h.keep hg (fun r e => by cases e)
theorem Buf.step {wb wa ws : World} {v2 : Value} {zs2 : List Int} (h : Buf w B lb O v zs W) (gb : Below W.heap.size W wb) (ga : wb.grownBy wa v.ownBlock) (hn : v2.ownBlock = v.ownBlock ∨ v2.ownBlock = some wb.heap.size)
    (oa : OwnM wa B 5 .u8 v2 zs2) (ls : ws.heap[lb]? = some (.cells #[v2] 27 (0, 0))) (gs : wa.grownBy ws (some lb)) :
    Buf w B lb O v2 zs2 ws ∧ KeepsOthers W ws ∧ Only (Turns lb O) W ws := by
  have hl := h.low
  have g1 : W.grownBy wb none := grown_of_below gb none
  have hb := h.grow g1
  have hne : some lb ≠ v.ownBlock := fun e => (h.free lb e.symm).1 rfl
  have hla := Held.keep_cells hb.cell ga hne
  have free2 : ∀ b, v2.ownBlock = some b → b ≠ lb ∧ Turns lb O b := fun b e => by
    rcases hn with q | q
    · rw [q] at e; exact h.free b e
    · rw [q] at e
      injection e with e
      have := hb.low
      exact ⟨by omega, .inl (by omega)⟩
  have hBb : B ≤ wb.heap.size := Nat.le_trans hb.le (Nat.le_of_lt hb.low)
  refine ⟨⟨h.le, ls, oa.kept gs ?_, free2, ?_⟩, ?_, ?_⟩
  · cases hq : v2.ownBlock with
    | none => exact .inl rfl
    | some b => exact .inr fun e => by injection e with e; exact (free2 b hq).1 e
  · refine (hb.below.grown ga hBb (fun r e => ?_)).grown gs (Nat.le_trans hBb ga.size) (fun r e => by cases e; exact h.le)
    exact (hb.own.lt r e).1
  · refine ((Held.others_of_new g1).trans (KeepsOthers.of_grownBy ga (fun j o e ho => ?_))).trans (Held.others_of_grown hla gs)
    obtain ⟨cs, fz, hcs⟩ := hb.own.obj e
    rw [hcs] at ho
    cases ho
    rfl
  · exact ((Only.of_grown g1 (fun r e => by cases e)).trans (Only.of_grown ga (fun r e => (h.free r e).2))).trans (Only.of_grown gs (fun r e => by cases e; exact .inl (Nat.le_refl _)))
end
section
variable {P : Program} {ops : Array Oper} {Q : Exit → Act → World → Prop}
theorem op_append_buf (i : Nat) (d : Option Tmp) {o : Oper} {a : Act} {w : World} {K : Act → World → Prop} {s x : Operand} (ts : TypeId) (hi : ops[i]? = some o) (hd : o.dst = d) (hw : Region.wanted o (yielded ops a.tmps) = true)
    (ho : o.op = .call { callee := .builtin .append, args := #[s, x], argTypes := #[ts, ts] }) (base : Nat) (e : TypeId) (k : IntKind) (bytes : Nat) (ht : P.underlying ts = some (.slice e))
    (hinfo : (P.info? e).map (fun i => (i.zero, i.size, i.bytes)) = some (some (.int k 0), 1, bytes)) (v : Value) (zs : List Int) (hs : a.eval s = v) (hown : OwnM w base e k v zs)
    (p c : Nat) (z : Int) (hx : a.eval x = .slice (some ⟨p, 0, none⟩) 1 c) (hr : w.cell? ⟨p, 0, none⟩ = some (.int k z)) (hwf : (Lit.int k z).wf = true) (hlen : zs.length + 1 ≤ 17592186044416) (hby : bytes ≤ 8) (hbase : base ≤ w.heap.size)
    (h : ∀ A' n' c' w', OwnM w' base e k (.slice A' n' c') (zs ++ [z]) → w.grownBy w' v.ownBlock → ((Value.slice A' n' c').ownBlock = v.ownBlock ∨ (Value.slice A' n' c').ownBlock = some w.heap.size) → n' ≤ c' → c' ≤ maxLen → Hid ((zs ++ [z]).length = n') → K (a.put d (.slice A' n' c')) w') : wpOp P ops Q i K a w := by
  subst hd
  refine Held.op_wp i hi hw ?_
  obtain ⟨v', w', hrun, h2, h3, h7⟩ := run_append_oneM (P := P) w base ts o.type e k bytes ht hinfo v zs hown p c z hr hwf hlen hby hbase
  obtain ⟨A', c', rfl, h4, h5, h6⟩ := h2.form
  exact Lib.wp_append_run w s x ts ts ho _ _ hs hx _ w' hrun (h _ _ _ w' h2 h3 h7 h4 h5 (Lib.hid rfl))
end
end Go.Proofs.YtjelacblnjbfgaaGreatDoor.Ky
namespace Go.Proofs.YtjelacblnjbfgaaGreatDoor.Ky
open Go.RowKit Go.Shelf Go.Proofs.YtjelacblnjbfgaaGreatDoor Mem Help Go.Proofs.YtjelacblnjbfgaaGreatDoor.Sum Po Go.Proofs.YtjelacblnjbfgaaGreatDoor.Range
attribute [local go_sem] Oper.semAt_some
attribute [local irreducible] wpList wpListIn Calls
theorem byte_range {x : Int} (k : Nat) : 0 ≤ x / 2 ^ (8 * k) % 256 ∧ x / 2 ^ (8 * k) % 256 ≤ 255 := by omega
set_option maxRecDepth 100000 in
set_option maxHeartbeats 4000000 in
theorem laid_any (B : Nat) (A0 : Option Addr) (n0 c0 : Nat) (zs : List Int) (bx : Nat) (A : Option Addr) (m c : Nat) (xs : List Int) (w : World) (ho : OwnM w B 5 .u8 (.slice A0 n0 c0) zs) (hB : B ≤ w.heap.size) (hn0 : zs.length ≤ 1073741824)
    (hbx : w.cell? ⟨bx, 0, none⟩ = some (.slice A m c)) (hbo : (Value.slice A0 n0 c0).ownBlock ≠ some bx) (hx : IntsN w .u64 (fun b => (Value.slice A0 n0 c0).ownBlock = some b) A m xs) (hm : m ≤ 1048576) :
    Calls Tryz.prog 38 #[.slice A0 n0 c0, .func (.func 62) #[] #[.pointer (some ⟨bx, 0, none⟩)]] w fun e w' => ∃ A' n' c', e = .returned (.slice A' n' c') ∧ OwnM w' B 5 .u8 (.slice A' n' c') (zs ++ eights xs) ∧ Below B w w' := by
  refine (callsIn_wide (n := 3)).1 ?_
  refine callsIn_of_wp_marks Tryz.func38 rfl trivial ?_ rfl
  simp only [Tryz.ntmps38, List.size_toArray, List.length_cons, List.length_nil, Nat.reduceAdd, Nat.reduceSub, Array.replicate_succ, Array.replicate_zero, List.push_toArray, List.append_toArray, List.nil_append, List.cons_append]
  obtain ⟨O, hO⟩ : ∃ O, (Value.slice A0 n0 c0).ownBlock = O := ⟨_, rfl⟩
  obtain ⟨lb, hlb⟩ : ∃ lb, w.heap.size = lb := ⟨_, rfl⟩
  have hOl : ∀ b, O = some b → b < lb := fun b e => by rw [← hlb]; exact (ho.lt b (by rw [hO]; exact e)).2
  have HZ := Lib.hid hn0
  have HXL := Lib.hid hx.1
  have HXW := Lib.hid hx.2.1
  rw [hO] at hbo
  have hbxl : bx < lb := by rw [← hlb]; exact World.block_lt_of_cell? w _ hbx
  have hSb : ¬ Turns lb O bx := fun e => by
    rcases e with e | e
    · omega
    · exact hbo e
  have hx2 : IntsN w .u64 (Turns lb O) A m xs := ⟨hx.1, hx.2.1, fun h0 => by
    obtain ⟨b, off, e, hb, hc⟩ := hx.2.2 h0
    refine ⟨b, off, e, fun t => ?_, hc⟩
    rcases t with t | t
    · have := World.block_lt_of_cell? w _ (hc 0 h0)
      have : b < w.heap.size := this
      omega
    · exact hb (hO.trans t)⟩
  clear hx hn0 hbo
  gi_wp2_with (refine Held.wpListIn_box_cell (w := w) rfl 27 _ rfl (.slice A0 n0 c0) rfl rfl ?_; intro w1 h1 g1 z1)
  have hB1 : B ≤ lb := by omega
  rw [hlb] at h1
  have b1 : Buf w B lb O (.slice A0 n0 c0) (zs ++ eights []) w1 := by
    refine ⟨hB1, h1, ?_, fun b e => ?_, (Below.refl _ w).grown g1 hB (fun r e => by cases e)⟩
    · rw [show zs ++ eights [] = zs by simp [eights]]
      exact ho.kept g1 (by cases (Value.slice A0 n0 c0).ownBlock <;> simp)
    · rw [hO] at e
      have := hOl b e
      exact ⟨by omega, .inr e⟩
  have hit := fun N => order_give N bx (Turns lb O) A m c xs w1 ((Only.of_grown g1 (S := Turns lb O) (fun r e => by cases e)).cell (p := ⟨bx, 0, none⟩) hSb hbx) hSb (hx2.only (Only.of_grown g1 (fun r e => by cases e))) (by omega)
  have hs1 : lb < w1.heap.size := b1.low
  have H1 := Lib.hid hs1
  clear h1 g1 z1 ho hbx hx2 hlb
  gi_wp2_with fail
  refine wpIn_rangeFunc_give rfl (by omega) (gf := 62) (lb := #[.pointer (some ⟨bx, 0, none⟩)]) rfl trivial (enters_of Tryz.func62 (by kernel_rfl) rfl)
    (hit _) (fun h k => h.trans k) (fun W l o o' hl ho hc _ => Only.put W l o o' ho hc) (Below.refl _ _) (fun x B W args hx => by cases hx; rfl)
    (fun pre W => ∃ v, Buf w B lb O v (zs ++ eights pre) W) (fun s W W' row hs hg hr => by obtain ⟨v, hv⟩ := hs; exact ⟨v, hv.keep hg (fun r e => ⟨by have := (hr r e).1; have := H1.out; omega, (hr r e).2⟩)⟩) ⟨_, b1⟩
    (fun x a' pre W => (∃ v, Buf w B lb O v (zs ++ eights pre) W) ∧
      a' = { tmps := #[.slice A0 n0 c0, .func (.func 62) #[] #[.pointer (some ⟨bx, 0, none⟩)], .pointer (some ⟨lb, 0, none⟩), undef, .slice none 0 0, .int .u64 x, undef, .func (.func 62) #[] #[.pointer (some ⟨bx, 0, none⟩)], .int .u64 x, undef, undef, undef, undef, undef, undef, undef, undef, undef, undef, undef, undef, undef], defers := [] }) ?ib ?assign ?body ?done
  case ib =>
    rintro x a' pre W W' row ⟨⟨v, hv⟩, h7⟩ hgr hr
    exact ⟨⟨v, hv.keep hgr (fun r e => ⟨by have := (hr r e).1; have := H1.out; omega, (hr r e).2⟩)⟩, h7⟩
  case assign =>
    rintro l pre x args W0 W K ⟨v, hv⟩ hg rfl hp hsz hK
    simp only [Held.zip_one, List.setIfInBounds_toArray, List.set_cons_zero, List.set_cons_succ]
    gi_wp2_with fail
    exact hK _ _ (KeepsOthers.refl _) (Only.refl _ _) ⟨⟨v, hv.grow hg⟩, rfl⟩
  case body =>
    rintro l pre x a' W ⟨⟨v, hv⟩, rfl⟩ hp hsz
    have hpl := List.IsPrefix.length_le hp
    have hxw := wf_u64 (HXW.out x (hp.subset (by simp)))
    have hx0 := hxw.1
    have hlen : (eights pre).length ≤ 8388608 := by rw [eights_length]; have := HXL.out; simp at hpl; omega
    have HLE := Lib.hid hlen
    have HE := Lib.hid (eights_snoc pre x)
    clear hp hpl hlen hxw
    gi_wp2_with fail
    gi_loopw [9] (fun i wr => ∃ k : Nat, k ≤ 8 ∧ i = .int .i64 k ∧ (∃ v, Buf w B lb O v (zs ++ eights pre ++ digits x k) wr) ∧ KeepsOthers W wr ∧ Only (Turns lb O) W wr) (fun i _ => 8 - (intOf i).toNat)
    case atStart => exact ⟨0, by omega, rfl, ⟨v, by rw [show digits x 0 = [] from rfl, List.append_nil]; exact hv⟩, KeepsOthers.refl _, Only.refl _ _⟩
    case round =>
      clear hv
      obtain ⟨k, hk, rfl, ⟨v1, hv1⟩, kk, ok⟩ := hrel
      by_cases hlt : k < 8
      · have hlt' : (k : Int) < 8 := by omega
        obtain ⟨A1, c1, rfl, _⟩ := hv1.own.form
        obtain ⟨n1, hn1⟩ : ∃ n1, (zs ++ eights pre ++ digits x k).length = n1 := ⟨_, rfl⟩
        rw [hn1] at hv1
        have HN := Lib.hid (show (zs ++ eights pre ++ digits x k).length + 1 ≤ 17592186044416 by rw [List.length_append, List.length_append, digits_length]; have := HZ.out; have := HLE.out; omega)
        have HD := Lib.hid (show zs ++ eights pre ++ digits x k ++ [x / 2 ^ (8 * k) % 256] = zs ++ eights pre ++ digits x (k + 1) by rw [digits_snoc, ← List.append_assoc])
        clear hn1
        have hmul : IntKind.i64.wrap (8 * (k : Int)) = ((8 * k : Nat) : Int) := by rw [IntKind.wrap_i64]; omega
        have hcv : IntKind.u8.wrap (x / 2 ^ (8 * k)) = x / 2 ^ (8 * k) % 256 := by rw [IntKind.wrap_u8]
        have hwz : ∀ z ∈ [x / 2 ^ (8 * k) % 256], (Lit.int .u8 z).wf = true := fun z hz => by rw [List.mem_singleton.1 hz]; exact wf_byte (byte_range k)
        gi_wp2_with fail
        refine Held.wpIn_region_heldR (r := some l) (S := fun _ => True) rfl (by kernel_rfl) (by kernel_rfl) (fun a w h => h) ?_
        change wpAnyH _ _ _ _ _ _ _ _ wr.drew
        have c0_0 : True := trivial
        refine Held.tk (v := .int .u64 x) 1 (some 13) rfl (Held.y_move rfl rfl) c0_0 ?_
        simp only [Act.put, Z1, Z2, Z3]
        refine Held.tk (v := .int .i64 (k : Int)) 2 (some 14) rfl (Held.y_move rfl rfl) c0_0 ?_
        simp only [Act.put, Z1, Z2, Z3]
        refine Held.tk (v := .int .i64 ((8 * k : Nat) : Int)) 3 (some 15) rfl (Held.y_int rfl rfl rfl (Held.run_mul 3 .i64 hmul)) c0_0 ?_
        simp only [Act.put, Z1, Z2, Z3]
        refine Held.tk (v := .int .u64 (x / 2 ^ (8 * k))) 4 (some 16) rfl (Held.y_bin rfl rfl rfl (fun w => by simp [eqGuard]) (Held.run_shr 23 .u64 .i64 (8 * k) (by show 8 * k ≤ 64; omega) rfl)) c0_0 ?_
        simp only [Act.put, Z1, Z2, Z3]
        refine Held.tk (v := .int .u8 (x / 2 ^ (8 * k) % 256)) 5 (some 17) rfl (Held.y_convert rfl rfl (by kernel_rfl) Tryz.underlying5 hcv) c0_0 ?_
        simp only [Act.put, Z1, Z2, Z3]
        refine Held.two 0 6 (by kernel_rfl) ?_ ?_
        · refine Held.op_load 0 (some 12) 27 ⟨lb, 0, none⟩ (.slice A1 n1 c1) rfl rfl rfl rfl rfl (Held.run_loadVar_cell _ _ _ _ (by kernel_rfl) (cell_of_one hv1.cell)) ?_
          have c0_1 := c0_0
          refine ⟨c0_1, ?_⟩
          simp only [Act.put, Z1, Z2, Z3]
          refine Held.one 6 (by kernel_rfl) ?_
          refine Held.op_build_Row 6 (some 18) 27 5 1 .u8 1 [x / 2 ^ (8 * k) % 256] rfl rfl rfl rfl Tryz.underlying27 info_u8 (by simp [Act.eval]) rfl (by omega) (by omega) hwz ?_
          intro p wb rb gb zb
          have gb : Below wr.heap.size wr wb := ⟨gb.os, gb.tape, gb.output, gb.size, gb.block⟩
          have hb := hv1.grow (grown_of_below gb none)
          have cb := hb.cell
          have c0_2 := c0_1
          refine ⟨c0_2, ?_⟩
          simp only [Act.put, Z1, Z2, Z3]
          refine Held.one 7 (by kernel_rfl) ?_
          refine op_append_buf 7 (some 19) 27 rfl rfl rfl rfl B 5 .u8 1 Tryz.underlying27 info_u8 (.slice A1 n1 c1) _ rfl hb.own p 1 (x / 2 ^ (8 * k) % 256) rfl (rb.cell (i := 0) (by simp)) (hwz _ List.mem_cons_self) HN.out (by omega) (Nat.le_trans hb.le (Nat.le_of_lt hb.low)) ?_
          intro A2 n2 c2 wa oa ga fa ha1 ha2 na
          rw [HD.out] at oa
          have la := Held.keep_cells hb.cell ga (fun e => (hb.free lb e.symm).1 rfl)
          have c0_3 := c0_2
          refine ⟨c0_3, ?_⟩
          simp only [Act.put, Z1, Z2, Z3]
          refine Held.one 8 (by kernel_rfl) ?_
          refine Held.op_store_box 8 none 27 lb 27 (.slice A1 n1 c1) (.slice A2 n2 c2) rfl rfl rfl rfl rfl rfl la (by kernel_rfl) rfl rfl ?_
          intro ws ls gs
          have c0_4 := c0_3
          refine ⟨c0_4, ?_⟩
          simp only [Act.put]
          refine wpAnyH_done (by kernel_rfl) ?_ _
          obtain ⟨q1, q2, q3⟩ := hv1.step gb ga fa oa ls gs
          clear gb hb cb rb ga oa la gs ls hv1
          gi_wp2_with fail
          go_roundw
          case rel => exact ⟨k + 1, by omega, by go_num, ⟨_, q1⟩, kk.trans q2, ok.trans q3⟩
          case measure => simp [intOf]; omega
        · refine Held.op_build_Row 6 (some 18) 27 5 1 .u8 1 [x / 2 ^ (8 * k) % 256] rfl rfl rfl rfl Tryz.underlying27 info_u8 (by simp [Act.eval]) rfl (by omega) (by omega) hwz ?_
          intro p wb rb gb zb
          have gb : Below wr.heap.size wr wb := ⟨gb.os, gb.tape, gb.output, gb.size, gb.block⟩
          have hb := hv1.grow (grown_of_below gb none)
          have cb := hb.cell
          have c0_1 := c0_0
          refine ⟨c0_1, ?_⟩
          simp only [Act.put, Z1, Z2, Z3]
          refine Held.one 0 (by kernel_rfl) ?_
          refine Held.op_load 0 (some 12) 27 ⟨lb, 0, none⟩ (.slice A1 n1 c1) rfl rfl rfl rfl rfl (Held.run_loadVar_cell _ _ _ _ (by kernel_rfl) (cell_of_one cb)) ?_
          have c0_2 := c0_1
          refine ⟨c0_2, ?_⟩
          simp only [Act.put, Z1, Z2, Z3]
          refine Held.one 7 (by kernel_rfl) ?_
          refine op_append_buf 7 (some 19) 27 rfl rfl rfl rfl B 5 .u8 1 Tryz.underlying27 info_u8 (.slice A1 n1 c1) _ rfl hb.own p 1 (x / 2 ^ (8 * k) % 256) rfl (rb.cell (i := 0) (by simp)) (hwz _ List.mem_cons_self) HN.out (by omega) (Nat.le_trans hb.le (Nat.le_of_lt hb.low)) ?_
          intro A2 n2 c2 wa oa ga fa ha1 ha2 na
          rw [HD.out] at oa
          have la := Held.keep_cells hb.cell ga (fun e => (hb.free lb e.symm).1 rfl)
          have c0_3 := c0_2
          refine ⟨c0_3, ?_⟩
          simp only [Act.put, Z1, Z2, Z3]
          refine Held.one 8 (by kernel_rfl) ?_
          refine Held.op_store_box 8 none 27 lb 27 (.slice A1 n1 c1) (.slice A2 n2 c2) rfl rfl rfl rfl rfl rfl la (by kernel_rfl) rfl rfl ?_
          intro ws ls gs
          have c0_4 := c0_3
          refine ⟨c0_4, ?_⟩
          simp only [Act.put]
          refine wpAnyH_done (by kernel_rfl) ?_ _
          obtain ⟨q1, q2, q3⟩ := hv1.step gb ga fa oa ls gs
          clear gb hb cb rb ga oa la gs ls hv1
          gi_wp2_with fail
          go_roundw
          case rel => exact ⟨k + 1, by omega, by go_num, ⟨_, q1⟩, kk.trans q2, ok.trans q3⟩
          case measure => simp [intOf]; omega
      · have hk8 : k = 8 := by omega
        subst hk8
        rw [List.append_assoc, ← HE.out] at hv1
        gi_wp2_with fail
        exact ⟨kk, ok, _, hv1⟩
  case done =>
    rintro D W hD ⟨v, hv⟩ hDl
    obtain ⟨A1, c1, rfl, _⟩ := hv.own.form
    obtain ⟨n1, hn1⟩ : ∃ n1, (zs ++ eights xs).length = n1 := ⟨_, rfl⟩
    rw [hn1] at hv
    have cl := cell_of_one hv.cell
    have HD := Lib.hid hDl
    have hlD : lb ≠ D := by have := H1.out; omega
    clear hn1
    gi_wp2_with fail
    have kp := hv.keep (grownBy_putObj' W D (.deferred none)) (fun r e => by cases e; exact ⟨by have := H1.out; omega, _, hDl, rfl⟩)
    refine ⟨by simp, .inl ⟨_, _, rfl, run_takeDeferred hDl, ?_⟩⟩
    exact ⟨_, results_tmp rfl _ _ _, A1, n1, c1, rfl, kp.own, kp.below⟩
end Go.Proofs.YtjelacblnjbfgaaGreatDoor.Ky
