/-
  The law ChachaStream of package dominolaw05 returns true for every key, nonce and two numbers: zeros, turned, are the blocks, one behind the other; behind the greatest counter comes 0. The table of package chacha holds what the program's text lays.
-/
import Derived.Test.YtejgnjnmlojdpaaDoorRows
import Derived.Test.YtejgnjnmlojdpaaDoorCards
import Derived.Test.YtejgnjnmlojdpaaDoorTie
import Derived.SevenTiedAt
import Derived.WalkKit
import Derived.ProofKit
import Derived.OpenShut
import Derived.ShutString
import Derived.ChangeOld
import Derived.Below
import Derived.LaidMore
import Derived.Stop.Joined
import Derived.Test.YtejgnjnmlojdpaaDoorCh9
import Derived.Test.YtejgnjnmlojdpaaDoorReg
import Derived.Test.YtejgnjnmlojdpaaDoorArrP
namespace Go.Proofs.YtejgnjnmlojdpaaDoor.chachaStream
open Go.ChangeShapes Go.WideShapes Go.ChangeAt Go.RowKit
open Go.ChangeMaps (open_string shut_string)
open Go.Shelf Go.Proofs.YtejgnjnmlojdpaaDoor.Mem Go.Proofs.YtejgnjnmlojdpaaDoor.Help Go.Proofs.YtejgnjnmlojdpaaDoor.Sum Go.Proofs.YtejgnjnmlojdpaaDoor.Cc Go.Proofs.YtejgnjnmlojdpaaDoor.Sha Go.Proofs.YtejgnjnmlojdpaaDoor.Cha Go.Proofs.YtejgnjnmlojdpaaDoor
set_option linter.unusedVariables false

theorem own : ownKnob Tryd.prog.godebug = none := by kernel_rfl
theorem laidOut : laidOutB Tryd.prog = true := by kernel_rfl

/-- what a slice that came in leads to -/
def IsRow (k : IntKind) (w : World) (a : Option Addr) (len cap : Nat) (zs : List Int) : Prop :=
  (a = none ∧ len = 0 ∧ cap = 0 ∧ zs = []) ∨
  ∃ x, a = some x ∧ len ≤ cap ∧ cap ≤ maxLen ∧ zs.length = cap ∧ (∀ i, i < zs.length → w.cell? (x.add i) = some (.int k (zs.getD i 0))) ∧ ∀ n ∈ zs, (Lit.int k n).wf = true

def laidList : List (String × DataW Unit) := [("domino/chacha.start", Rows.laid_domino_chacha_start)]

attribute [local irreducible] wpList Calls

theorem y_nei {P : Program} {S : World → Prop} {ρ : Operand → Value} {o : Oper} {t ty : TypeId} {x y : Operand} {k : IntKind} {a : Int} (ho : o.op = .binOp .neq t x y ty) (hx : ρ x = .int k a) (hy : ρ y = .int k a) :
    ∀ w, S w → (execOp ρ o).run P w = .ok (.value (.bool false)) w := Held.y_bin ho hx hy (fun w => by simp [eqGuard]) (fun w => by simp [binOp, Op.intCmp])

set_option maxRecDepth 100000 in
set_option maxHeartbeats 8000000 in
theorem start (key nonce : List Int) (back x : Int) (w : World) (hk : key.length = 32) (hkb : Bs key) (hn : nonce.length = 12) (hnb : Bs nonce) (hbk : R32 back) (hT : Tab w 0 sigma) :
    Calls Tryd.prog 6 #[.agg (arr .u8 key), .agg (arr .u8 nonce), .int .u32 back, .int .i64 x] w fun e w' => e = .returned (.bool true) ∧ Below w.heap.size w w' := by
  have info_k : (Tryd.prog.info? 22).map (·.size) = some 32 := by kernel_rfl
  have info_n : (Tryd.prog.info? 24).map (·.size) = some 12 := by kernel_rfl
  have HK := Lib.hid hk
  have HN := Lib.hid hn
  clear hk hn
  obtain ⟨n, hN, hn4⟩ : ∃ n : Nat, wrap64 ((IntKind.u64.wrap x).tmod 400) = (n : Int) ∧ n < 400 := by
    have hu0 : 0 ≤ IntKind.u64.wrap x := by rw [IntKind.wrap_u64]; omega
    have h1 : 0 ≤ IntKind.u64.wrap x % 400 := Int.emod_nonneg _ (by omega)
    have h2 : IntKind.u64.wrap x % 400 < 400 := Int.emod_lt_of_pos _ (by omega)
    rw [Int.tmod_eq_emod_of_nonneg hu0]
    exact ⟨(IntKind.u64.wrap x % 400).toNat, by unfold wrap64; omega, by omega⟩
  have hb0 : 0 ≤ back := hbk.1
  go_enter Tryd.func6, Tryd.ntmps6
  go_wp2_with (first
    | (refine wpList_box_Row (w := w) rfl 22 _ rfl .u8 key rfl (bs_wf hkb) ?_; intro wy r1 g1 z1)
    | (refine wpList_box_Row (w := wy) rfl 24 _ rfl .u8 nonce rfl (bs_wf hnb) ?_; intro wz r2 g2 z2))
  rw [hN]
  clear hN
  obtain ⟨ctr, hctr⟩ : ∃ c, -(back % 4) % 4294967296 = c := ⟨_, rfl⟩
  have hc : R32 ctr := by unfold R32; omega
  rw [hctr]
  clear hctr hbk hb0
  have bz : Below w.heap.size w wz := ((Below.refl _ w).grown g1 (Nat.le_refl _) (by simp)).grown g2 g1.size (by simp)
  obtain ⟨nn, hnn⟩ : ∃ x, wy.heap.size = x := ⟨_, rfl⟩
  have k2 := r1.grown g2 (by simp)
  have n2 := r2
  rw [hnn] at n2 ⊢
  clear hnn r1 r2 g1 g2 z1 z2
  have HXL := Lib.hid (show (xors key nonce ctr (List.replicate n 0)).length = n by rw [xors_length]; simp)
  have HZ := Lib.hid (fun i (hi : i < n) => xors_zeros key nonce ctr n hi)
  refine wp_region_held (S := fun W => Below wz.heap.size wz W) (by kernel_rfl) ?_
  change wpAnyH _ _ _ _ _ _ _ _ wz.drew
  have c0_0 := (Below.refl wz.heap.size wz).drew
  refine Held.take (v := .agg (arr .u8 key)) 0 (some 20) rfl rfl (by kernel_rfl) (by kernel_rfl) (by kernel_rfl) (fun _ _ _ h => h) rfl (Held.y_load_Row (zs := key) rfl rfl Tryd.underlying22 info_k HK.out (fun W hW => Row.below k2 hW k2.lt)) c0_0 ?_
  simp only [Act.put, List.setIfInBounds_toArray, List.set_cons_zero, List.set_cons_succ]
  refine Held.take (v := .agg (arr .u8 nonce)) 1 (some 21) rfl rfl (by kernel_rfl) (by kernel_rfl) (by kernel_rfl) (fun _ _ _ h => h) rfl (Held.y_load_Row (zs := nonce) rfl rfl Tryd.underlying24 info_n HN.out (fun W hW => Row.below n2 hW n2.lt)) c0_0 ?_
  simp only [Act.put, List.setIfInBounds_toArray, List.set_cons_zero, List.set_cons_succ]
  refine Held.take (v := .int .u32 ctr) 2 (some 22) rfl rfl (by kernel_rfl) (by kernel_rfl) (by kernel_rfl) (fun _ _ _ h => h) rfl (Held.y_move rfl rfl) c0_0 ?_
  simp only [Act.put, List.setIfInBounds_toArray, List.set_cons_zero, List.set_cons_succ]
  refine Held.take (v := .int .i64 (n : Int)) 3 (some 23) rfl rfl (by kernel_rfl) (by kernel_rfl) (by kernel_rfl) (fun _ _ _ h => h) rfl (Held.y_move rfl rfl) c0_0 ?_
  simp only [Act.put, List.setIfInBounds_toArray, List.set_cons_zero, List.set_cons_succ]
  refine Held.one 4 (by kernel_rfl) ?_
  refine Held.op_make_Row 4 (some 24) 38 5 .u8 1 n .i64 .i64 rfl rfl rfl rfl Tryd.underlying38 info_u8 rfl rfl (by omega) (by omega) ?_
  intro p4 w1 r4 b1 h4
  have c0_1 := c0_0.trans (b1.mono c0_0.size)
  refine ⟨c0_1, ?_⟩
  simp only [Act.put, List.setIfInBounds_toArray, List.set_cons_zero, List.set_cons_succ]
  refine Held.one 5 (by kernel_rfl) ?_
  refine Held.op_call 5 (some 25) 15 #[.agg (arr .u8 key), .agg (arr .u8 nonce), .int .u32 ctr, .slice (some ⟨p4, 0, none⟩) n n] rfl rfl rfl rfl (enters_of Tryd.func15 (by kernel_rfl) rfl) (by simp [Act.eval])
    (xor_any key nonce ctr w1.heap.size _ n n (List.replicate n 0) _ (by have := r4.ints (n := n) (by simp); rwa [List.take_of_length_le (by simp)] at this) (Nat.le_refl _) (Nat.le_refl _) (by omega) HK.out hkb HN.out hnb hc (hT.below (bz.trans (c0_1.mono bz.size)) hT.lt)) ?_
  rintro e w2 ⟨A6, c6, rfl, h61, h62, o6, b2⟩
  have c0_2 := c0_1.trans (b2.mono c0_1.size)
  refine ⟨_, rfl, c0_2, ?_⟩
  simp only [Act.put, List.setIfInBounds_toArray, List.set_cons_zero, List.set_cons_succ]
  refine Held.take (v := .slice A6 n c6) 6 (some 10) rfl rfl (by kernel_rfl) (by kernel_rfl) (by kernel_rfl) (fun _ _ _ h => h) rfl (Held.y_assign rfl rfl) c0_2 ?_
  simp only [Act.put, List.setIfInBounds_toArray, List.set_cons_zero, List.set_cons_succ]
  refine wpAnyH_done (by kernel_rfl) ?_ _
  have b5 := bz.trans (c0_2.mono bz.size)
  have k5 := k2.below c0_2 k2.lt
  have n5 := n2.below c0_2 n2.lt
  have o5 := o6
  have hw1 := c0_1.size
  clear o6 c0_0 c0_1 c0_2 b1 b2 r4 h4 k2 n2 h61 h62
  go_wp2_with fail
  refine (awake5_any _).mono ?_
  rintro e w' ⟨rfl, rfl⟩
  go_wp2_with fail
  go_loopw [11] (fun i wr => ∃ k : Nat, k ≤ n ∧ i = .int .i64 k ∧ Row wr w.heap.size 22 .u8 key ∧ Row wr nn 24 .u8 nonce ∧ Mem.Own wr w1.heap.size 5 .u8 (.slice A6 n c6) (xors key nonce ctr (List.replicate n 0)) ∧ Below w.heap.size w wr) (fun i _ => n - (intOf i).toNat)
  case atStart => exact ⟨0, by omega, rfl, k5, n5, o5, b5⟩
  case round =>
    clear k5 n5 o5 b5
    obtain ⟨k, hk, rfl, kr, nr, own, hbl⟩ := hrel
    have hk0 : (0 : Int) ≤ (k : Int) := by omega
    by_cases hlt : k < n
    · have hlt' : (k : Int) < (n : Int) := by omega
      have hd0 : IntKind.u32.wrap ((k : Int) / 64) = (k : Int) / 64 % 4294967296 := by rw [IntKind.wrap_u32]
      go_wp2_with (first
        | (refine wpList_load_RowG (w := wr) rfl 22 _ rfl w.heap.size rfl 22 .u8 _ kr 32 5 Tryd.underlying22 info_k HK.out ?_)
        | (refine wpList_load_RowG (w := wr) rfl 24 _ rfl nn rfl 24 .u8 _ nr 12 5 Tryd.underlying24 info_n HN.out ?_))
      have ec : (ctr + (k : Int) / 64) % 4294967296 = addI ctr ((k / 64 : Nat) : Int) := by unfold addI; omega
      rw [ec]
      refine (block_any key nonce (addI ctr ((k / 64 : Nat) : Int)) wr HK.out hkb HN.out hnb (r32_add _ _) (hT.below hbl hT.lt)).mono ?_
      rintro e w4 ⟨rfl, hb4⟩
      have kr := kr.below hb4 kr.lt
      have nr := nr.below hb4 nr.lt
      have own := own.below hb4
      have hbl := hbl.trans (hb4.mono hbl.size)
      clear hb4 ec hd0
      obtain ⟨r, hr⟩ : ∃ r, k % 64 = r := ⟨_, rfl⟩
      have hr64 : r < 64 := by omega
      have er1 : (k : Int).tmod 64 = (r : Int) := by rw [Int.tmod_eq_emod_of_nonneg hk0]; omega
      have HZk := Lib.hid (HZ.out k hlt)
      rw [hr] at HZk
      have hbw := bs_wf (block_bytes key (addI ctr ((k / 64 : Nat) : Int)) nonce)
      have HBL := Lib.hid (block_length key (addI ctr ((k / 64 : Nat) : Int)) nonce)
      obtain ⟨Z2, hZ2⟩ : ∃ Z2, Cc.block key (addI ctr ((k / 64 : Nat) : Int)) nonce = Z2 := ⟨_, rfl⟩
      rw [hZ2] at HZk hbw HBL ⊢
      clear hZ2
      go_wp2_with (first
        | (refine wpList_alloc_Row (w := w4) rfl 29 rfl .u8 64 zero_64 ?_; intro w5 r5 g5 z5)
        | (refine wpList_store_RowTo (w := w5) rfl 29 _ _ rfl w4.heap.size rfl 29 .u8 _ Z2 rfl r5 64 info_64 HBL.out (by simp) hbw ?_; intro w6 r6 g6 z6))
      obtain ⟨kb, hkb'⟩ : ∃ x, w4.heap.size = x := ⟨_, rfl⟩
      have lk := kr.lt
      have ln := nr.lt
      have kr := (kr.grown g5 (by simp)).grown g6 (by intro e; injection e with e; omega)
      have nr := (nr.grown g5 (by simp)).grown g6 (by intro e; injection e with e; omega)
      have own := (own.kept g5 (by cases (Value.slice A6 n c6).ownBlock <;> simp)).kept g6 (.inr (fun e => by have := (own.2.lt _ e).2; omega))
      have hbl := (hbl.grown g5 hbl.size (by simp)).grown g6 (Nat.le_trans hbl.size g5.size) (fun r e => by have := hbl.size; cases e; omega)
      rw [hkb'] at r6 ⊢
      clear hkb' r5 g5 g6 z5 z6 lk ln
      obtain ⟨b, off, eA, _, hcx⟩ := (own.ints HXL.out).at_ hlt
      subst eA
      have hcb := r6.cell (i := r) (by rw [HBL.out]; exact hr64)
      rw [HZk.out] at hcx
      generalize Z2.getD r 0 = z at *
      refine wp_region_held (S := fun W => Below w6.heap.size w6 W) (by kernel_rfl) ?_
      change wpAnyH _ _ _ _ _ _ _ _ w6.drew
      have c0_0 := (Below.refl w6.heap.size w6).drew
      refine Held.take (v := .slice (some ⟨b, off, none⟩) n c6) 0 (some 47) rfl rfl (by kernel_rfl) (by kernel_rfl) (by kernel_rfl) (fun _ _ _ h => h) rfl (Held.y_move rfl rfl) c0_0 ?_
      simp only [Act.put, List.setIfInBounds_toArray, List.set_cons_zero, List.set_cons_succ]
      refine Held.take (v := .int .i64 (k : Int)) 1 (some 48) rfl rfl (by kernel_rfl) (by kernel_rfl) (by kernel_rfl) (fun _ _ _ h => h) rfl (Held.y_move rfl rfl) c0_0 ?_
      simp only [Act.put, List.setIfInBounds_toArray, List.set_cons_zero, List.set_cons_succ]
      refine Held.take (v := .pointer (some ⟨b, off + k, none⟩)) 2 (some 49) rfl rfl (by kernel_rfl) (by kernel_rfl) (by kernel_rfl) (fun _ _ _ h => h) rfl (Held.y_addr rfl rfl rfl (fun X => Held.run_addr_slice 38 5 b off n c6 k .i64 Tryd.underlying38 (by kernel_rfl) hlt X)) c0_0 ?_
      simp only [Act.put, List.setIfInBounds_toArray, List.set_cons_zero, List.set_cons_succ]
      refine Held.take (v := .int .u8 z) 3 (some 50) rfl rfl (by kernel_rfl) (by kernel_rfl) (by kernel_rfl) (fun _ _ _ h => h) rfl (Held.y_load rfl rfl (by kernel_rfl) (fun X h => (h.cell (World.block_lt_of_cell? _ _ hcx)).trans hcx)) c0_0 ?_
      simp only [Act.put, List.setIfInBounds_toArray, List.set_cons_zero, List.set_cons_succ]
      refine Held.take (v := .int .i64 (k : Int)) 4 (some 51) rfl rfl (by kernel_rfl) (by kernel_rfl) (by kernel_rfl) (fun _ _ _ h => h) rfl (Held.y_move rfl rfl) c0_0 ?_
      simp only [Act.put, List.setIfInBounds_toArray, List.set_cons_zero, List.set_cons_succ]
      refine Held.take (v := .int .i64 (r : Int)) 5 (some 52) rfl rfl (by kernel_rfl) (by kernel_rfl) (by kernel_rfl) (fun _ _ _ h => h) rfl (Held.y_int rfl rfl rfl (fun X => Held.run_rem _ _ (by omega) er1 X)) c0_0 ?_
      simp only [Act.put, List.setIfInBounds_toArray, List.set_cons_zero, List.set_cons_succ]
      refine Held.take (v := .pointer (some ⟨kb, r, none⟩)) 6 (some 53) rfl rfl (by kernel_rfl) (by kernel_rfl) (by kernel_rfl) (fun _ _ _ h => h) rfl (Held.y_addr rfl rfl rfl (fun X => Held.run_addr_arr 29 5 64 kb r .i64 Tryd.underlying29 (by kernel_rfl) hr64 X)) c0_0 ?_
      simp only [Act.put, List.setIfInBounds_toArray, List.set_cons_zero, List.set_cons_succ]
      refine Held.take (v := .int .u8 z) 7 (some 54) rfl rfl (by kernel_rfl) (by kernel_rfl) (by kernel_rfl) (fun _ _ _ h => h) rfl (Held.y_load rfl rfl (by kernel_rfl) (fun X h => (h.cell (World.block_lt_of_cell? _ _ hcb)).trans hcb)) c0_0 ?_
      simp only [Act.put, List.setIfInBounds_toArray, List.set_cons_zero, List.set_cons_succ]
      refine Held.take (v := .bool false) 8 (some 55) rfl rfl (by kernel_rfl) (by kernel_rfl) (by kernel_rfl) (fun _ _ _ h => h) rfl (y_nei rfl rfl rfl) c0_0 ?_
      simp only [Act.put, List.setIfInBounds_toArray, List.set_cons_zero, List.set_cons_succ]
      refine wpAnyH_done (by kernel_rfl) ?_ _
      have kr := kr.below c0_0 kr.lt
      have nr := nr.below c0_0 nr.lt
      have own := own.below c0_0
      have hbl := hbl.trans (c0_0.mono hbl.size)
      go_wp2_with fail
      go_roundw
      case rel => exact ⟨k + 1, by omega, by go_num, kr, nr, own, hbl⟩
      case measure => simp [intOf]; omega
    · go_wp2_with fail
      go_ret
      exact ⟨rfl, hbl⟩

theorem walk (z0 : List Int) (z1 : List Int) (a2 : Int) (a3 : Int) (w : World) (zl0 : z0.length = 32) (zw0 : ∀ z ∈ z0, (Lit.int .u8 z).wf = true) (zl1 : z1.length = 12) (zw1 : ∀ z ∈ z1, (Lit.int .u8 z).wf = true) (w2 : (Lit.int .u32 a2).wf = true) (w3 : (Lit.int .i64 a3).wf = true) (hL : laidMetH Tryd.prog laidList w) :
    Calls Tryd.prog 6 #[.agg (Mem.arr .u8 z0), .agg (Mem.arr .u8 z1), .int .u32 a2, .int .i64 a3] w fun e w' => e = .returned (.bool true) ∧ Below w.heap.size w w' := by
  exact start z0 z1 a2 a3 w zl0 (bs_of_wf zw0) zl1 (bs_of_wf zw1) (r32_of_wf w2) (chacha_of_laid hL)

set_option maxRecDepth 100000 in
theorem door_met (os : Os) (args : Array Value) : laidMetH Tryd.prog laidList ((World.doorLaid Tryd.prog 400 os).forCall (fun _ _ => 0) ⟨#[], args, []⟩).memory :=
  laidMetH_of_parts3 (fuel := 8) (laidMet_of_run' 8 (by kernel_rfl) (by kernel_rfl)) (by kernel_rfl) (by kernel_rfl)

set_option maxRecDepth 100000 in
theorem lifted (os : Os) (started : os.Started) (H : Type) (enc : TypeId × Value → H) :
    ReturnsInHanded {} Tryd.checked os 6 .any (fun w args => (Rows.chachaStreamSpec.pre enc Tryd.prog Tryd.f6 [] false w args ∧ laidMetH Tryd.prog laidList w) ∧ sizedMet enc Tryd.prog Tryd.f6 (OpenSpec.ofChange Rows.chachaStreamSpec) false w args)
      (Rows.chachaStreamSpec.post enc Tryd.prog Tryd.f6 false true false false) := by
  refine returnsInHanded_of_change_and (C := Tryd.checked) (X := fun w _ => laidMetH Tryd.prog laidList w) (fun _ _ _ hh h => h.of_heap hh) own started (by kernel_rfl) Tryd.func6
    (ChangeSpec.witness_shaped (enc := enc) (C := Tryd.checked) (os := os) (X := fun w _ => laidMetH Tryd.prog laidList w) false (World.doorLaid Tryd.prog 400 os) #[.agg (Array.replicate 32 (.int .u8 0)), .agg (Array.replicate 12 (.int .u8 0)), .int .u32 0, .int .i64 0] 8 rfl (World.shaped_of_RefB (by kernel_rfl) (by kernel_rfl)) (by kernel_rfl) (by kernel_rfl) (by kernel_rfl) (door_met os _)) ?_
  intro W base args ds gs before hval0 hW _ _ hL _
  have hval : ∀ (j : Nat) t v, Tryd.f6.params[j]? = some t → args[j]? = some v → Value.okWide Tryd.prog W .any base t v := hval0
  have hW' := hW
  obtain ⟨p, q, hA0, hV, rfl, hfz, hnd⟩ := hW
  have hA : DataW.TrodAll enc Tryd.prog W 0 (fun _ => true) true Tryd.f6.params.toList args.toList ds p := hA0
  rw [Tryd.params6] at hA hval
  obtain ⟨v0, vs0, d0, ds0, p0, q0, hargs, rfl, rfl, h0, r0⟩ := trodAll_cons hA
  obtain ⟨v1, vs1, d1, ds1, p1, q1, rfl, rfl, rfl, h1, r1⟩ := trodAll_cons r0
  obtain ⟨v2, vs2, d2, ds2, p2, q2, rfl, rfl, rfl, h2, r2⟩ := trodAll_cons r1
  obtain ⟨v3, vs3, d3, ds3, p3, q3, rfl, rfl, rfl, h3, r3⟩ := trodAll_cons r2
  obtain ⟨rfl, rfl, rfl⟩ := trodAll_nil r3
  obtain rfl : args = #[v0, v1, v2, v3] := by cases args; simp_all
  obtain ⟨rfl, rfl⟩ := trodVars_none hV
  have k0 := h0
  have lt0 : ∀ x ∈ p0, x.block < W.heap.size := by obtain ⟨m, hm⟩ := k0; exact DataW.trod_lt m _ _ _ hm
  obtain ⟨z0, rfl, zl0, zw0⟩ := Mem.open_arr Tryd.underlying22 Tryd.underlying5 (by kernel_rfl) (by kernel_rfl) (hval 0 22 v0 rfl rfl) h0
  have k1 := h1
  have lt1 : ∀ x ∈ p1, x.block < W.heap.size := by obtain ⟨m, hm⟩ := k1; exact DataW.trod_lt m _ _ _ hm
  obtain ⟨z1, rfl, zl1, zw1⟩ := Mem.open_arr Tryd.underlying24 Tryd.underlying5 (by kernel_rfl) (by kernel_rfl) (hval 1 24 v1 rfl rfl) h1
  obtain ⟨a2, rfl, rfl, rfl, w2⟩ := open_int Tryd.underlying23 (hval 2 23 v2 rfl rfl) h2
  obtain ⟨a3, rfl, rfl, rfl, w3⟩ := open_int Tryd.underlying3 (hval 3 3 v3 rfl rfl) h3
  clear hA0 hval0
  refine (walk z0 z1 a2 a3 W zl0 zw0 zl1 zw1 w2 w3 hL).mono fun e W' ⟨he, bel⟩ => ?_
  subst he
  exact ⟨_, rfl, _, _, _, [], _, [], hW', trodAll_mk1 (shut_bool Tryd.underlying4 _), (trodAll_cons_mk (Below.trod laidOut (by kernel_rfl) (of_decide_eq_true (by kernel_rfl)) k0 bel lt0) (trodAll_cons_mk (Below.trod laidOut (by kernel_rfl) (of_decide_eq_true (by kernel_rfl)) k1 bel lt1) (trodAll_cons_mk (shut_int Tryd.underlying23 w2) (trodAll_cons_mk (shut_int Tryd.underlying3 w3) trodAll_mk0)))), rfl, bel.frame _, fun h => by cases h⟩

theorem over : Rows.chachaStreamRow.holds Tryd.pinned (OpenSpec.ofChange Rows.chachaStreamSpec) :=
  OpenClaim.holds_of_wide 6 Tryd.f6 rfl rfl rfl rfl rfl rfl rfl ⟨rfl, rfl, rfl, rfl, rfl⟩ rfl rfl rfl rfl rfl (by kernel_rfl) Tryd.func6 (by kernel_rfl)
    (of_decide_eq_true (by kernel_rfl)) (by unfold Func.isWrapper; first | (rw [if_pos (by decide +kernel)]; kernel_rfl) | (rw [if_neg (by decide +kernel)]; exact ⟨rfl, rfl⟩))
    (fun os started H enc _ => lifted os started H enc)

/-- the statement -/
theorem proved : Rows.ChachaStreamCardSaid :=
  Claim7.holds_tied_plain_at .later [] [.widerDeep] true (true, "57614f36d60a4ae182e142bcf2b768e680c0ae2dfdb0ed6f7e128fd9b707c59f") false
    over (fun _ h => by cases h) (by kernel_rfl) (fun _ h => by cases h) chachaStream_row_tie rfl ⟨rfl, rfl⟩ (by kernel_rfl) rfl
    (fun f fn hf hfn => by
      obtain rfl : f = 6 := Option.some.inj ((show Tryd.prog.funcNamed "domino/dominolaw05.ChachaStream" = some 6 by kernel_rfl).symm.trans hf) |>.symm
      obtain rfl : fn = Tryd.f6 := (Option.some.inj (Tryd.func6.symm.trans hfn)).symm
      exact ⟨by kernel_rfl, fun j t ht => by
        rw [Tryd.params6] at ht
        have hm : t ∈ [22, 24, 23, 3] := by simpa using Array.mem_of_getElem? ht
        have hall : ([22, 24, 23, 3].all fun u => !Tryd.prog.wantsStandIn u) = true := by kernel_rfl
        exact (show Tryd.prog.wantsStandIn t = false by simpa using List.all_eq_true.1 hall t hm)⟩)
    (by kernel_rfl)
#print axioms proved
end Go.Proofs.YtejgnjnmlojdpaaDoor.chachaStream
