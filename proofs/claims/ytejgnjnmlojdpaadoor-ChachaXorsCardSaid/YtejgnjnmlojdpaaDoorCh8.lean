/-
  The document's own Xor by its contract. Conditions: a key of 32 bytes, a nonce of 12, a counter of 32 bits, at most 2^40 bytes.
-/
import Derived.Test.YtejgnjnmlojdpaaDoorCh5
import Derived.Test.YtejgnjnmlojdpaaDoorReg
namespace Go.Proofs.YtejgnjnmlojdpaaDoor.Cha
open Go.RowKit Go.Shelf Go.Proofs.YtejgnjnmlojdpaaDoor.Mem Go.Proofs.YtejgnjnmlojdpaaDoor.Help Go.Proofs.YtejgnjnmlojdpaaDoor.Sum Go.Proofs.YtejgnjnmlojdpaaDoor.Cc Go.Proofs.YtejgnjnmlojdpaaDoor.Sha Go.Proofs.YtejgnjnmlojdpaaDoor
set_option linter.unusedVariables false
attribute [local irreducible] wpList wpListIn

theorem bs_of_ints {w : World} {B : Nat} {A : Option Addr} {n : Nat} {zs : List Int} (h : Ints w .u8 B A n zs) : Bs zs := fun z hz => wf_u8 (h.2.1 z hz)
theorem rinfo_k32 : (Tryd.prog.info? 22).map (·.size) = some 32 := by kernel_rfl
theorem rinfo_n12 : (Tryd.prog.info? 24).map (·.size) = some 12 := by kernel_rfl

set_option maxRecDepth 100000 in
set_option maxHeartbeats 4000000 in
theorem rxor_any (key nonce : List Int) (ctr : Int) (B : Nat) (A : Option Addr) (m c : Nat) (bs : List Int) (w : World) (hi : Ints w .u8 B A m bs) (hB : B ≤ w.heap.size) (hm : m ≤ 1099511627776)
    (hk : key.length = 32) (hkb : Bs key) (hn : nonce.length = 12) (hnb : Bs nonce) (hc : R32 ctr) :
    Calls Tryd.prog 17 #[.agg (arr .u8 key), .agg (arr .u8 nonce), .int .u32 ctr, .slice A m c] w fun e w' => ∃ A' c', e = .returned (.slice A' m c') ∧ m ≤ c' ∧ Mem.Own w' w.heap.size 5 .u8 (.slice A' m c') (xors key nonce ctr bs) ∧ Below w.heap.size w w' := by
  have HK := Lib.hid hk
  have HN := Lib.hid hn
  have HB := Lib.hid hi.1
  have HX := Lib.hid (fun q (hq : q < m) => xors_snoc key nonce ctr bs (k := q) (by rw [hi.1]; exact hq))
  have HXL := Lib.hid (fun q (hq : q ≤ m) => show (xors key nonce ctr (bs.take q)).length = q by rw [xors_length, List.length_take, hi.1]; omega)
  have HSB := Lib.hid (fun i => stream_bound key ctr nonce i)
  have HBS := Lib.hid (bs_of_ints hi)
  have hat : ∀ i, i < m → ∃ b off, A = some ⟨b, off, none⟩ ∧ b < B ∧ w.cell? ⟨b, off + i, none⟩ = some (.int .u8 (bs.getD i 0)) := fun i h => hi.at_ h
  clear hk hn hi
  go_enter Tryd.func17, Tryd.ntmps17
  go_wp2_with (first
    | (refine wpList_box_Row (w := w) rfl 22 _ rfl .u8 key rfl (bs_wf hkb) ?_; intro w1 r1 g1 z1)
    | (refine wpList_box_Row (w := w1) rfl 24 _ rfl .u8 nonce rfl (bs_wf hnb) ?_; intro w2 r2 g2 z2)
    | (refine wpList_alloc_Row (w := w2) rfl 29 rfl .u8 64 zero_64 ?_; intro w3 r3 g3 z3))
  obtain ⟨nn, hnn⟩ : ∃ x, w1.heap.size = x := ⟨_, rfl⟩
  obtain ⟨kb, hkb'⟩ : ∃ x, w2.heap.size = x := ⟨_, rfl⟩
  have l1 := r1.lt
  have l2 := r2.lt
  have b3 : Below w.heap.size w w3 := (((Below.refl _ w).grown g1 (Nat.le_refl _) (by simp)).grown g2 g1.size (by simp)).grown g3 (by omega) (by simp)
  have k3 := (r1.grown g2 (by simp)).grown g3 (by simp)
  have n3 := r2.grown g3 (by simp)
  rw [hnn] at l1 l2 n3 ⊢
  rw [hkb'] at l2 r3 ⊢
  clear hnn hkb' r1 r2 g1 g2 g3 z1 z2 z3
  have HKB := Lib.hid hkb
  go_loopw [9, 11] (fun v n wr => ∃ (i : Nat) (A1 : Option Addr) (c1 : Nat) (Z : List Int), i ≤ m ∧ v = .slice A1 i c1 ∧ n = .int .i64 i ∧ i ≤ c1 ∧ Mem.Own wr (kb + 1) 5 .u8 (.slice A1 i c1) (xors key nonce ctr (bs.take i)) ∧ Row wr w.heap.size 22 .u8 key ∧ Row wr nn 24 .u8 nonce ∧ Row wr kb 29 .u8 Z ∧
    (Z.length = 64 ∧ (i % 64 ≠ 0 → Z = Cc.block key (addI ctr ((i / 64 : Nat) : Int)) nonce)) ∧ Below w.heap.size w wr) (fun _ n _ => m - (intOf n).toNat)
  case atStart => exact ⟨0, none, 0, List.replicate 64 0, by omega, rfl, rfl, by omega, by simpa [xors] using Own.nil w3 (kb + 1) 5 .u8, k3, n3, r3, ⟨by simp, fun h => absurd rfl h⟩, b3⟩
  case round =>
    clear k3 n3 r3 b3
    obtain ⟨i, A1, c1, Z, him, rfl, rfl, hc1, hown, kr, nr, hZ, hzz, hbl⟩ := hrel
    have hi0 : (0 : Int) ≤ (i : Int) := by omega
    by_cases hlt : i < m
    · have hlt' : (i : Int) < (m : Int) := by omega
      obtain ⟨b, off, rfl, hb, hcw⟩ := hat i hlt
      have HXq := Lib.hid (HX.out i hlt)
      have HQL := Lib.hid (HXL.out i (by omega))
      have HQL1 := Lib.hid (HXL.out (i + 1) (by omega))
      have hz := HSB.out i
      have hy := HBS.out.at_ i
      have hcy0 := (hbl.cell (p := ⟨b, off + i, none⟩) (by show b < _; omega)).trans hcw
      obtain ⟨r, hr⟩ : ∃ r, i % 64 = r := ⟨_, rfl⟩
      have hr64 : r < 64 := by omega
      have er1 : (i : Int).tmod 64 = (r : Int) := by rw [Int.tmod_eq_emod_of_nonneg hi0]; omega
      have HST := Lib.hid (show streamAt key ctr nonce i = (Cc.block key (addI ctr ((i / 64 : Nat) : Int)) nonce).getD r 0 by rw [← hr]; rfl)
      have lkb0 : kb + 1 ≤ wr.heap.size := hZ.lt
      clear hcw
      by_cases hr0 : r = 0
      · have hq0 : (i : Int) % 64 = 0 := by omega
        have hd0 : IntKind.u32.wrap ((i : Int) / 64) = (i : Int) / 64 % 4294967296 := by rw [IntKind.wrap_u32]
        go_wp2_with (first
          | (refine wpList_load_Row (w := wr) rfl 22 _ rfl w.heap.size rfl 22 .u8 _ kr 32 5 Tryd.underlying22 rinfo_k32 HK.out ?_)
          | (refine wpList_load_Row (w := wr) rfl 24 _ rfl nn rfl 24 .u8 _ nr 12 5 Tryd.underlying24 rinfo_n12 HN.out ?_))
        have ec : (ctr + (i : Int) / 64) % 4294967296 = addI ctr ((i / 64 : Nat) : Int) := by unfold addI; omega
        rw [ec]
        refine (rblock_any key nonce (addI ctr ((i / 64 : Nat) : Int)) wr HK.out hkb HN.out hnb (r32_add _ _)).mono ?_
        rintro e w4 ⟨rfl, hb4⟩
        have kr := kr.below hb4 kr.lt
        have nr := nr.below hb4 nr.lt
        have hZ := hZ.below hb4 hZ.lt
        have hown := hown.below hb4
        have hcy1 := (hb4.cell (World.block_lt_of_cell? _ _ hcy0)).trans hcy0
        have hbl := hbl.trans (hb4.mono hbl.size)
        have lkb1 : kb + 1 ≤ w4.heap.size := Nat.le_trans lkb0 hb4.size
        clear hb4 hcy0 lkb0 ec hd0 hq0
        have HZN := Lib.hid (show (Cc.block key (addI ctr ((i / 64 : Nat) : Int)) nonce).length = 64 ∧ ((i + 1) % 64 ≠ 0 → Cc.block key (addI ctr ((i / 64 : Nat) : Int)) nonce = Cc.block key (addI ctr (((i + 1) / 64 : Nat) : Int)) nonce) from ⟨block_length _ _ _, fun h => by rw [show (i + 1) / 64 = i / 64 by omega]⟩)
        have hbw := bs_wf (block_bytes key (addI ctr ((i / 64 : Nat) : Int)) nonce)
        have HZ := Lib.hid (HST.out.symm)
        obtain ⟨Z2, hZ2⟩ : ∃ Z2, Cc.block key (addI ctr ((i / 64 : Nat) : Int)) nonce = Z2 := ⟨_, rfl⟩
        rw [hZ2] at HZN hbw HZ ⊢
        have HZL := Lib.hid HZN.out.1
        clear hZ2 HST
        generalize bs.getD i 0 = y at *
        generalize streamAt key ctr nonce i = z at *
        go_wp2_with (refine wpList_store_RowTo (w := w4) rfl 29 _ _ rfl kb rfl 29 .u8 _ Z2 rfl hZ 64 info_64 HZL.out hzz.1 hbw ?_; intro w5 r5 g5 z5)
        have kr := kr.grown g5 (by intro e; injection e with e; omega)
        have nr := nr.grown g5 (by intro e; injection e with e; omega)
        have hown := hown.kept g5 (.inr (fun e => by have := (hown.2.lt kb e).1; omega))
        have hcy := (World.cell?_of_block (w := w4) (w' := w5) (a := ⟨b, off + i, none⟩) (g5.block b (World.block_lt_of_cell? _ _ hcy1) (by intro e; injection e with e; omega))).trans hcy1
        have hbl := hbl.grown g5 hbl.size (fun r e => by cases e; omega)
        have lkb : kb + 1 ≤ w5.heap.size := Nat.le_trans lkb1 g5.size
        clear hZ hzz hcy1 lkb1 g5 z5
        have hZ := r5
        clear r5
        obtain ⟨Z, rfl⟩ : ∃ Z, Z = Z2 := ⟨_, rfl⟩
        refine wp_region_held (S := fun X => X.cell? ⟨b, off + i, none⟩ = some (.int .u8 y) ∧ Row X kb 29 .u8 Z) (by kernel_rfl) ?_
        change wpAnyH _ _ _ _ _ _ _ _ w5.drew
        have c0_0 : w5.drew.cell? ⟨b, off + i, none⟩ = some (.int .u8 y) ∧ Row w5.drew kb 29 .u8 Z := ⟨hcy, hZ⟩
        refine Held.take (v := .slice A1 i c1) 0 (some 29) rfl rfl (by kernel_rfl) (by kernel_rfl) (by kernel_rfl) (fun _ _ _ h => h) rfl (Held.y_move rfl rfl) c0_0 ?_
        simp only [Act.put, List.setIfInBounds_toArray, List.set_cons_zero, List.set_cons_succ]
        refine Held.take (v := .slice (some ⟨b, off, none⟩) m c) 1 (some 30) rfl rfl (by kernel_rfl) (by kernel_rfl) (by kernel_rfl) (fun _ _ _ h => h) rfl (Held.y_move rfl rfl) c0_0 ?_
        simp only [Act.put, List.setIfInBounds_toArray, List.set_cons_zero, List.set_cons_succ]
        refine Held.take (v := .int .i64 (i : Int)) 2 (some 31) rfl rfl (by kernel_rfl) (by kernel_rfl) (by kernel_rfl) (fun _ _ _ h => h) rfl (Held.y_move rfl rfl) c0_0 ?_
        simp only [Act.put, List.setIfInBounds_toArray, List.set_cons_zero, List.set_cons_succ]
        refine Held.take (v := .pointer (some ⟨b, off + i, none⟩)) 3 (some 32) rfl rfl (by kernel_rfl) (by kernel_rfl) (by kernel_rfl) (fun _ _ _ h => h) rfl (Held.y_addr rfl rfl rfl (fun X => Held.run_addr_slice 38 5 b off m c i .i64 Tryd.underlying38 (by kernel_rfl) hlt X)) c0_0 ?_
        simp only [Act.put, List.setIfInBounds_toArray, List.set_cons_zero, List.set_cons_succ]
        refine Held.take (v := .int .u8 y) 4 (some 33) rfl rfl (by kernel_rfl) (by kernel_rfl) (by kernel_rfl) (fun _ _ _ h => h) rfl (Held.y_load rfl rfl (by kernel_rfl) (fun X h => h.1)) c0_0 ?_
        simp only [Act.put, List.setIfInBounds_toArray, List.set_cons_zero, List.set_cons_succ]
        refine Held.take (v := .int .i64 (i : Int)) 5 (some 34) rfl rfl (by kernel_rfl) (by kernel_rfl) (by kernel_rfl) (fun _ _ _ h => h) rfl (Held.y_move rfl rfl) c0_0 ?_
        simp only [Act.put, List.setIfInBounds_toArray, List.set_cons_zero, List.set_cons_succ]
        refine Held.take (v := .int .i64 (r : Int)) 6 (some 35) rfl rfl (by kernel_rfl) (by kernel_rfl) (by kernel_rfl) (fun _ _ _ h => h) rfl (Held.y_int rfl rfl rfl (fun X => Held.run_rem _ _ (by omega) er1 X)) c0_0 ?_
        simp only [Act.put, List.setIfInBounds_toArray, List.set_cons_zero, List.set_cons_succ]
        refine Held.take (v := .pointer (some ⟨kb, r, none⟩)) 7 (some 36) rfl rfl (by kernel_rfl) (by kernel_rfl) (by kernel_rfl) (fun _ _ _ h => h) rfl (Held.y_addr rfl rfl rfl (fun X => Held.run_addr_arr 29 5 64 kb r .i64 Tryd.underlying29 (by kernel_rfl) hr64 X)) c0_0 ?_
        simp only [Act.put, List.setIfInBounds_toArray, List.set_cons_zero, List.set_cons_succ]
        refine Held.take (v := .int .u8 z) 8 (some 37) rfl rfl (by kernel_rfl) (by kernel_rfl) (by kernel_rfl) (fun _ _ _ h => h) rfl (Held.y_load rfl rfl (by kernel_rfl) (fun X h => by rw [h.2.cell (by rw [HZL.out]; exact hr64), HZ.out])) c0_0 ?_
        simp only [Act.put, List.setIfInBounds_toArray, List.set_cons_zero, List.set_cons_succ]
        refine Held.take (v := .int .u8 (bits .xor .u8 y z)) 9 (some 38) rfl rfl (by kernel_rfl) (by kernel_rfl) (by kernel_rfl) (fun _ _ _ h => h) rfl (Held.y_int rfl rfl rfl (fun X => Held.run_bitop (.inl rfl) _ _ rfl X)) c0_0 ?_
        simp only [Act.put, List.setIfInBounds_toArray, List.set_cons_zero, List.set_cons_succ]
        refine Held.one 10 (by kernel_rfl) ?_
        refine Held.op_build_Row 10 (some 39) 38 5 1 .u8 1 [bits .xor .u8 y z] rfl rfl rfl rfl Tryd.underlying38 info_u8 (by simp [Act.eval]) rfl (by omega) (by omega) (by simpa using wf_byte (byte_xor_bound hy hz)) ?_
        intro p8 w8 r8 b8 h8
        have c0_1 : w8.cell? ⟨b, off + i, none⟩ = some (.int .u8 y) ∧ Row w8 kb 29 .u8 Z := ⟨(b8.cell (World.block_lt_of_cell? _ _ c0_0.1)).trans c0_0.1, Row.below c0_0.2 b8 c0_0.2.lt⟩
        have o8 := Mem.Own.below (w := w5.drew) (hown.drewN 1) b8
        have i8 := r8.ints (n := 1) (by simp)
        refine ⟨c0_1, ?_⟩
        simp only [Act.put, List.setIfInBounds_toArray, List.set_cons_zero, List.set_cons_succ]
        refine Held.one 11 (by kernel_rfl) ?_
        refine Held.op_append_ints 11 (some 40) 38 rfl rfl rfl rfl (kb + 1) 5 .u8 1 Tryd.underlying38 info_u8 _ (xors key nonce ctr (bs.take i)) rfl o8 w8.heap.size (some ⟨p8, 0, none⟩) 1 1 [bits .xor .u8 y z] rfl i8 (by rw [HQL.out]; omega) (by omega) (Nat.le_trans lkb b8.size) ?_
        intro A9 n9 c9 w9 o9 g9 h91 h92 H9 i9
        have ne9 : ∀ p, p ≤ kb → some p ≠ (Value.slice A1 i c1).ownBlock := fun p hp e => by have := (o8.2.lt p e.symm).1; omega
        have r9 := c0_1.2.grown g9 (ne9 kb (Nat.le_refl _))
        have c0_2 : w9.cell? ⟨b, off + i, none⟩ = some (.int .u8 y) ∧ Row w9 kb 29 .u8 Z := ⟨(World.cell?_of_block (w := w8) (w' := w9) (a := ⟨b, off + i, none⟩) (g9.block b (World.block_lt_of_cell? _ _ c0_1.1) (ne9 b (by omega)))).trans c0_1.1, r9⟩
        refine ⟨c0_2, ?_⟩
        simp only [Act.put, List.setIfInBounds_toArray, List.set_cons_zero, List.set_cons_succ]
        refine Held.take (v := .slice A9 n9 c9) 12 (some 9) rfl rfl (by kernel_rfl) (by kernel_rfl) (by kernel_rfl) (fun _ _ _ h => h) rfl (Held.y_assign rfl rfl) c0_2 ?_
        simp only [Act.put, List.setIfInBounds_toArray, List.set_cons_zero, List.set_cons_succ]
        refine wpAnyH_done (by kernel_rfl) ?_ _
        rw [← HXq.out] at o9 H9
        have hn9 : n9 = i + 1 := by rw [← H9.out, HQL1.out]
        subst hn9
        have bB : Below w.heap.size w w9 := (hbl.trans (Below.mono (show Below w5.heap.size w5 w8 from ⟨b8.os, b8.tape, b8.output, b8.size, b8.block⟩) hbl.size)).grown g9 (Nat.le_trans hbl.size b8.size) (fun r e => by have := (o8.2.lt r e).1; omega)
        have k9 := (kr.below (show Below w5.heap.size w5 w8 from ⟨b8.os, b8.tape, b8.output, b8.size, b8.block⟩) kr.lt).grown g9 (ne9 _ (by omega))
        have m9 := (nr.below (show Below w5.heap.size w5 w8 from ⟨b8.os, b8.tape, b8.output, b8.size, b8.block⟩) nr.lt).grown g9 (ne9 _ (by omega))
        have l9 : kb + 1 ≤ w9.heap.size := Nat.le_trans (Nat.le_trans lkb b8.size) g9.size
        clear g9 b8 o8 i8 r8 h8 i9 c0_2 ne9
        go_wp2_with fail
        go_roundw
        case rel => exact ⟨i + 1, A9, c9, Z, by omega, rfl, by go_num, h91, o9, k9, m9, r9, HZN.out, bB⟩
        case measure => simp [intOf]; omega
      · have hq0 : ¬ (i : Int) % 64 = 0 := by omega
        have hZe := hzz.2 (by omega)
        have HZN := Lib.hid (show Z.length = 64 ∧ ((i + 1) % 64 ≠ 0 → Z = Cc.block key (addI ctr (((i + 1) / 64 : Nat) : Int)) nonce) from ⟨hzz.1, fun h => by rw [hZe, show (i + 1) / 64 = i / 64 by omega]⟩)
        have HZ := Lib.hid (show Z.getD r 0 = streamAt key ctr nonce i by rw [HST.out, hZe])
        have HZL := Lib.hid hzz.1
        have hcy := hcy0
        have lkb := lkb0
        clear hZe hzz HST hcy0 lkb0
        generalize bs.getD i 0 = y at *
        generalize streamAt key ctr nonce i = z at *
        go_wp2_with fail
        refine wp_region_held (S := fun X => X.cell? ⟨b, off + i, none⟩ = some (.int .u8 y) ∧ Row X kb 29 .u8 Z) (by kernel_rfl) ?_
        change wpAnyH _ _ _ _ _ _ _ _ wr.drew
        have c0_0 : wr.drew.cell? ⟨b, off + i, none⟩ = some (.int .u8 y) ∧ Row wr.drew kb 29 .u8 Z := ⟨hcy, hZ⟩
        refine Held.take (v := .slice A1 i c1) 0 (some 29) rfl rfl (by kernel_rfl) (by kernel_rfl) (by kernel_rfl) (fun _ _ _ h => h) rfl (Held.y_move rfl rfl) c0_0 ?_
        simp only [Act.put, List.setIfInBounds_toArray, List.set_cons_zero, List.set_cons_succ]
        refine Held.take (v := .slice (some ⟨b, off, none⟩) m c) 1 (some 30) rfl rfl (by kernel_rfl) (by kernel_rfl) (by kernel_rfl) (fun _ _ _ h => h) rfl (Held.y_move rfl rfl) c0_0 ?_
        simp only [Act.put, List.setIfInBounds_toArray, List.set_cons_zero, List.set_cons_succ]
        refine Held.take (v := .int .i64 (i : Int)) 2 (some 31) rfl rfl (by kernel_rfl) (by kernel_rfl) (by kernel_rfl) (fun _ _ _ h => h) rfl (Held.y_move rfl rfl) c0_0 ?_
        simp only [Act.put, List.setIfInBounds_toArray, List.set_cons_zero, List.set_cons_succ]
        refine Held.take (v := .pointer (some ⟨b, off + i, none⟩)) 3 (some 32) rfl rfl (by kernel_rfl) (by kernel_rfl) (by kernel_rfl) (fun _ _ _ h => h) rfl (Held.y_addr rfl rfl rfl (fun X => Held.run_addr_slice 38 5 b off m c i .i64 Tryd.underlying38 (by kernel_rfl) hlt X)) c0_0 ?_
        simp only [Act.put, List.setIfInBounds_toArray, List.set_cons_zero, List.set_cons_succ]
        refine Held.take (v := .int .u8 y) 4 (some 33) rfl rfl (by kernel_rfl) (by kernel_rfl) (by kernel_rfl) (fun _ _ _ h => h) rfl (Held.y_load rfl rfl (by kernel_rfl) (fun X h => h.1)) c0_0 ?_
        simp only [Act.put, List.setIfInBounds_toArray, List.set_cons_zero, List.set_cons_succ]
        refine Held.take (v := .int .i64 (i : Int)) 5 (some 34) rfl rfl (by kernel_rfl) (by kernel_rfl) (by kernel_rfl) (fun _ _ _ h => h) rfl (Held.y_move rfl rfl) c0_0 ?_
        simp only [Act.put, List.setIfInBounds_toArray, List.set_cons_zero, List.set_cons_succ]
        refine Held.take (v := .int .i64 (r : Int)) 6 (some 35) rfl rfl (by kernel_rfl) (by kernel_rfl) (by kernel_rfl) (fun _ _ _ h => h) rfl (Held.y_int rfl rfl rfl (fun X => Held.run_rem _ _ (by omega) er1 X)) c0_0 ?_
        simp only [Act.put, List.setIfInBounds_toArray, List.set_cons_zero, List.set_cons_succ]
        refine Held.take (v := .pointer (some ⟨kb, r, none⟩)) 7 (some 36) rfl rfl (by kernel_rfl) (by kernel_rfl) (by kernel_rfl) (fun _ _ _ h => h) rfl (Held.y_addr rfl rfl rfl (fun X => Held.run_addr_arr 29 5 64 kb r .i64 Tryd.underlying29 (by kernel_rfl) hr64 X)) c0_0 ?_
        simp only [Act.put, List.setIfInBounds_toArray, List.set_cons_zero, List.set_cons_succ]
        refine Held.take (v := .int .u8 z) 8 (some 37) rfl rfl (by kernel_rfl) (by kernel_rfl) (by kernel_rfl) (fun _ _ _ h => h) rfl (Held.y_load rfl rfl (by kernel_rfl) (fun X h => by rw [h.2.cell (by rw [HZL.out]; exact hr64), HZ.out])) c0_0 ?_
        simp only [Act.put, List.setIfInBounds_toArray, List.set_cons_zero, List.set_cons_succ]
        refine Held.take (v := .int .u8 (bits .xor .u8 y z)) 9 (some 38) rfl rfl (by kernel_rfl) (by kernel_rfl) (by kernel_rfl) (fun _ _ _ h => h) rfl (Held.y_int rfl rfl rfl (fun X => Held.run_bitop (.inl rfl) _ _ rfl X)) c0_0 ?_
        simp only [Act.put, List.setIfInBounds_toArray, List.set_cons_zero, List.set_cons_succ]
        refine Held.one 10 (by kernel_rfl) ?_
        refine Held.op_build_Row 10 (some 39) 38 5 1 .u8 1 [bits .xor .u8 y z] rfl rfl rfl rfl Tryd.underlying38 info_u8 (by simp [Act.eval]) rfl (by omega) (by omega) (by simpa using wf_byte (byte_xor_bound hy hz)) ?_
        intro p8 w8 r8 b8 h8
        have c0_1 : w8.cell? ⟨b, off + i, none⟩ = some (.int .u8 y) ∧ Row w8 kb 29 .u8 Z := ⟨(b8.cell (World.block_lt_of_cell? _ _ c0_0.1)).trans c0_0.1, Row.below c0_0.2 b8 c0_0.2.lt⟩
        have o8 := Mem.Own.below (w := wr.drew) (hown.drewN 1) b8
        have i8 := r8.ints (n := 1) (by simp)
        refine ⟨c0_1, ?_⟩
        simp only [Act.put, List.setIfInBounds_toArray, List.set_cons_zero, List.set_cons_succ]
        refine Held.one 11 (by kernel_rfl) ?_
        refine Held.op_append_ints 11 (some 40) 38 rfl rfl rfl rfl (kb + 1) 5 .u8 1 Tryd.underlying38 info_u8 _ (xors key nonce ctr (bs.take i)) rfl o8 w8.heap.size (some ⟨p8, 0, none⟩) 1 1 [bits .xor .u8 y z] rfl i8 (by rw [HQL.out]; omega) (by omega) (Nat.le_trans lkb b8.size) ?_
        intro A9 n9 c9 w9 o9 g9 h91 h92 H9 i9
        have ne9 : ∀ p, p ≤ kb → some p ≠ (Value.slice A1 i c1).ownBlock := fun p hp e => by have := (o8.2.lt p e.symm).1; omega
        have r9 := c0_1.2.grown g9 (ne9 kb (Nat.le_refl _))
        have c0_2 : w9.cell? ⟨b, off + i, none⟩ = some (.int .u8 y) ∧ Row w9 kb 29 .u8 Z := ⟨(World.cell?_of_block (w := w8) (w' := w9) (a := ⟨b, off + i, none⟩) (g9.block b (World.block_lt_of_cell? _ _ c0_1.1) (ne9 b (by omega)))).trans c0_1.1, r9⟩
        refine ⟨c0_2, ?_⟩
        simp only [Act.put, List.setIfInBounds_toArray, List.set_cons_zero, List.set_cons_succ]
        refine Held.take (v := .slice A9 n9 c9) 12 (some 9) rfl rfl (by kernel_rfl) (by kernel_rfl) (by kernel_rfl) (fun _ _ _ h => h) rfl (Held.y_assign rfl rfl) c0_2 ?_
        simp only [Act.put, List.setIfInBounds_toArray, List.set_cons_zero, List.set_cons_succ]
        refine wpAnyH_done (by kernel_rfl) ?_ _
        rw [← HXq.out] at o9 H9
        have hn9 : n9 = i + 1 := by rw [← H9.out, HQL1.out]
        subst hn9
        have bB : Below w.heap.size w w9 := (hbl.trans (Below.mono (show Below wr.heap.size wr w8 from ⟨b8.os, b8.tape, b8.output, b8.size, b8.block⟩) hbl.size)).grown g9 (Nat.le_trans hbl.size b8.size) (fun r e => by have := (o8.2.lt r e).1; omega)
        have k9 := (kr.below (show Below wr.heap.size wr w8 from ⟨b8.os, b8.tape, b8.output, b8.size, b8.block⟩) kr.lt).grown g9 (ne9 _ (by omega))
        have m9 := (nr.below (show Below wr.heap.size wr w8 from ⟨b8.os, b8.tape, b8.output, b8.size, b8.block⟩) nr.lt).grown g9 (ne9 _ (by omega))
        have l9 : kb + 1 ≤ w9.heap.size := Nat.le_trans (Nat.le_trans lkb b8.size) g9.size
        clear g9 b8 o8 i8 r8 h8 i9 c0_2 ne9
        go_wp2_with fail
        go_roundw
        case rel => exact ⟨i + 1, A9, c9, Z, by omega, rfl, by go_num, h91, o9, k9, m9, r9, HZN.out, bB⟩
        case measure => simp [intOf]; omega
    · have him' : i = m := by omega
      subst him'
      rw [List.take_of_length_le (by rw [HB.out]; omega)] at hown
      go_wp2_with fail
      go_ret
      exact ⟨A1, c1, rfl, hc1, hown.less (by omega), hbl⟩
end Go.Proofs.YtejgnjnmlojdpaaDoor.Cha

