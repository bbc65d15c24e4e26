/-
  The law PolyTwice of package dominolaw06 returns true for every two halves: with a key whose first half says 2 the tag of a whole piece is twice the piece, and the last half of the key. The table of kept bits of package poly holds what the program's text lays.
-/
import Derived.Test.YtebkicikpeicmaaDoorRows
import Derived.Test.YtebkicikpeicmaaDoorCards
import Derived.Test.YtebkicikpeicmaaDoorTie
import Derived.SevenTiedAt
import Derived.WalkKit
import Derived.ProofKit
import Derived.OpenShut
import Derived.ShutString
import Derived.ChangeOld
import Derived.Below
import Derived.LaidMore
import Derived.Stop.Joined
import Derived.Test.YtebkicikpeicmaaDoorPy8
import Derived.Test.YtebkicikpeicmaaDoorCut
import Derived.Test.YtebkicikpeicmaaDoorArrP
namespace Go.Proofs.YtebkicikpeicmaaDoor.polyTwice
open Go.ChangeShapes Go.WideShapes Go.ChangeAt Go.RowKit
open Go.ChangeMaps (open_string shut_string)
open Go.Shelf Go.Proofs.YtebkicikpeicmaaDoor.Mem Go.Proofs.YtebkicikpeicmaaDoor.Help Go.Proofs.YtebkicikpeicmaaDoor.Sum Go.Proofs.YtebkicikpeicmaaDoor.Sha Go.Proofs.YtebkicikpeicmaaDoor.Po Go.Proofs.YtebkicikpeicmaaDoor
set_option linter.unusedVariables false

theorem own : ownKnob Tryd.prog.godebug = none := by kernel_rfl
theorem laidOut : laidOutB Tryd.prog = true := by kernel_rfl

/-- what a slice that came in leads to -/
def IsRow (k : IntKind) (w : World) (a : Option Addr) (len cap : Nat) (zs : List Int) : Prop :=
  (a = none ∧ len = 0 ∧ cap = 0 ∧ zs = []) ∨
  ∃ x, a = some x ∧ len ≤ cap ∧ cap ≤ maxLen ∧ zs.length = cap ∧ (∀ i, i < zs.length → w.cell? (x.add i) = some (.int k (zs.getD i 0))) ∧ ∀ n ∈ zs, (Lit.int k n).wf = true

def laidList : List (String × DataW Unit) := [("domino/poly.kept", Rows.laid_domino_poly_kept)]

attribute [local irreducible] wpList Calls
theorem info_bytes : (Tryd.prog.info? 25).map (fun i => (i.zero, i.size, i.bytes)) = some (some (.slice none 0 0), 1, 24) := by kernel_rfl
set_option maxRecDepth 100000 in
set_option maxHeartbeats 8000000 in
theorem start (half bs : List Int) (w : World) (hhl : half.length = 16) (hhb : Bs half) (hbl' : bs.length = 16) (hbb : Bs bs) (hT : TabK w 0 .u8 keptI) :
    Calls Tryd.prog 6 #[.agg (arr .u8 half), .agg (arr .u8 bs)] w fun e w' => e = .returned (.bool true) ∧ Below w.heap.size w w' := by
  have HHL := Lib.hid hhl
  have HBL0 := Lib.hid hbl'
  have HKL := Lib.hid (smallK_length 2 hhl)
  have HKB := Lib.hid (smallK_bytes (f := 2) (by omega) hhb)
  have HKG := Lib.hid (smallK_get 2 half)
  have HKE := Lib.hid (smallK_end 2 hhl)
  have HKS := Lib.hid (smallK_start 2 hhl)
  have HHA := Lib.hid (fun i => hhb.at_ i)
  have hzl : (smallK 2 half).length = (zeroK 2).length := by rw [HKL.out]; simp [zeroK]
  have HZL := Lib.hid (show (zeroK 2).length = 32 by simp [zeroK])
  have HLEN := Lib.hid hzl
  have HB15 := hbb.at_ 15
  have hand := (and_byte HB15).2.2.2
  have hb2 : Bs (bs.set 15 (bs.getD 15 0 % 128)) := fun z hz => by
    rcases List.mem_or_eq_of_mem_set hz with h1 | h1
    · exact hbb z h1
    · rw [h1]; omega
  have hl2 : (bs.set 15 (bs.getD 15 0 % 128)).length = 16 := by rw [List.length_set]; exact HBL0.out
  have h15 : (bs.set 15 (bs.getD 15 0 % 128)).getD 15 0 ≤ 127 := by rw [getD_set_self _ (by rw [HBL0.out]; omega)]; omega
  obtain ⟨b15, hb15⟩ : ∃ x, bs.getD 15 0 = x := ⟨_, rfl⟩
  rw [hb15] at HB15 hand
  rw [hb15] at hb2 hl2 h15
  have HB15E := Lib.hid hb15
  obtain ⟨bs', hb'⟩ : ∃ bs', bs.set 15 (b15 % 128) = bs' := ⟨_, rfl⟩
  rw [hb'] at hb2 hl2 h15
  have HB' := Lib.hid hb'
  have HBL := Lib.hid hl2
  have HY0 := Lib.hid (poly_two HHL.out hl2 hb2 h15)
  have HBB := Lib.hid hb2
  have HBA := Lib.hid (fun i => hb2.at_ i)
  have hm2 : (bs'.map (2 * ·)).length = 16 := by rw [List.length_map]; exact hl2
  have HSB := Lib.hid (show ∀ x ∈ addB half (bs'.map (2 * ·)), 0 ≤ x ∧ x ≤ 765 from addB_small hhb (fun z hz => by obtain ⟨y, hy, rfl⟩ := List.mem_map.1 hz; have := hb2 y hy; omega))
  have HCS := Lib.hid (cout_small HSB.out)
  have HOS := Lib.hid (fun k => show cout 0 (addB half (bs'.map (2 * ·))) (k + 1) = (cout 0 (addB half (bs'.map (2 * ·))) k + (addB half (bs'.map (2 * ·))).getD k 0) / 256 from rfl)
  have HSG := Lib.hid (fun k (h : k < 16) => show (addB half (bs'.map (2 * ·))).getD k 0 = half.getD k 0 + 2 * bs'.getD k 0 by rw [addB_get (by omega) (by omega)]; rw [two_get bs' (by omega)])
  have HYG := Lib.hid (fun k (h : k < 16) => show (carried 0 (addB half (bs'.map (2 * ·)))).getD k 0 = (cout 0 (addB half (bs'.map (2 * ·))) k + (addB half (bs'.map (2 * ·))).getD k 0) % 256 from carried_get 0 _ k (by rw [addB_length (by omega)]; omega))
  obtain ⟨S, hS⟩ : ∃ S, addB half (bs'.map (2 * ·)) = S := ⟨_, rfl⟩
  simp only [hS] at HSB HCS HOS HSG HYG HY0
  obtain ⟨Y, hY⟩ : ∃ Y, carried 0 S = Y := ⟨_, rfl⟩
  simp only [hY] at HYG HY0
  have HY := HY0
  clear hS hY HY0
  clear hb15 hb' h15 hm2 hl2 hb2
  clear hhl hzl
  go_enter Tryd.func6, Tryd.ntmps6
  go_wp2_with (first
    | (refine wpList_box_Row (w := w) rfl 27 _ rfl .u8 half rfl (bs_wf hhb) ?_; intro w1 r1 g1 z1)
    | (refine wpList_box_Row (w := w1) rfl 27 _ rfl .u8 bs rfl (bs_wf hbb) ?_; intro w2 r2 g2 z2)
    | (refine wpList_alloc_Row (w := w2) rfl 22 rfl .u8 32 zero_key ?_; intro w3 r3 g3 z3)
    | (refine wpList_store_elem (w := w3) rfl 5 _ _ rfl w2.heap.size 0 rfl 22 .u8 _ 2 rfl r3 (by simp) info_u8 rfl ?_; intro w4 r4 g4 z4))
  obtain ⟨gb, hgb⟩ : ∃ g, w1.heap.size = g := ⟨_, rfl⟩
  obtain ⟨gk, hgk⟩ : ∃ g, w2.heap.size = g := ⟨_, rfl⟩
  have l1 := r1.lt
  have l2 := r2.lt
  have s3 := g3.size
  have b4 : Below w.heap.size w w4 := (((Below.refl _ w).grown g1 (Nat.le_refl _) (by simp)).grown g2 g1.size (by simp)).grown g3 (by omega) (by simp) |>.grown g4 (by omega) (fun r e => by cases e; omega)
  have h4 := ((r1.grown g2 (by simp)).grown g3 (by simp)).grown g4 (by intro e; injection e with e; omega)
  have q4 := (r2.grown g3 (by simp)).grown g4 (by intro e; injection e with e; omega)
  rw [hgb] at l1 l2 q4
  rw [hgk] at l2 r4
  rw [hgb, hgk]
  have k4 : Row w4 gk 22 .u8 (blend (smallK 2 half) (zeroK 2) 16) := by rw [HKS.out]; exact r4
  clear hgb hgk r1 r2 r3 g1 g2 g3 g4 z1 z2 z3 z4 r4 s3
  go_loopw [6] (fun i wr => ∃ q : Nat, q ≤ 16 ∧ i = .int .i64 q ∧ Below w.heap.size w wr ∧ Row wr w.heap.size 27 .u8 half ∧ Row wr gb 27 .u8 bs ∧ Row wr gk 22 .u8 (blend (smallK 2 half) (zeroK 2) (16 + q))) (fun i _ => 16 - (intOf i).toNat)
  case atStart => exact ⟨0, by omega, rfl, b4, h4, q4, k4⟩
  case round =>
    clear b4 h4 q4 k4
    obtain ⟨q, hq, rfl, hbl, hr, br, kr⟩ := hrel
    have hq0 : (0 : Int) ≤ (q : Int) := by omega
    by_cases hlq : q < 16
    · have hlq' : (q : Int) < 16 := by omega
      have hq32 : (16 : Int) + (q : Int) < 32 := by omega
      have hqn : ((16 : Int) + (q : Int)).toNat = 16 + q := by omega
      have hq160 : (0 : Int) ≤ (16 : Int) + (q : Int) := by omega
      have ch := hr.cell (i := q) (by rw [HHL.out]; exact hlq)
      have hset := blend_set HLEN.out (i := 16 + q) (by rw [HZL.out]; omega)
      rw [HKG.out q] at hset
      have HSET := Lib.hid hset
      have HBLN := Lib.hid (show (blend (smallK 2 half) (zeroK 2) (16 + q)).length = 32 by rw [blend_length HLEN.out, HZL.out])
      have hx := HHA.out q
      clear hset
      generalize half.getD q 0 = x at *
      have w0 : (Lit.int .u8 x).wf = true := wf_byte hx
      go_wp2_with (refine wpList_store_elem (w := wr) rfl 5 _ _ rfl gk (16 + q) rfl 22 .u8 _ x rfl kr (by rw [HBLN.out]; omega) info_u8 w0 ?_; intro w8 q8 g8 z8; rw [HSET.out] at q8)
      go_roundw
      case rel => exact ⟨q + 1, by omega, by go_num, hbl.grown g8 hbl.size (fun r e => by cases e; omega), hr.grown g8 (by intro e; injection e with e; omega), br.grown g8 (by intro e; injection e with e; omega), q8⟩
      case measure => simp [intOf]; omega
    · have hq16 : q = 16 := by omega
      have hnl : ¬ (q : Int) < 16 := by omega
      rw [hq16, HKE.out] at kr
      clear hq16 hlq hq
      have cb := br.cell (i := 15) (by rw [HBL0.out]; omega)
      rw [HB15E.out] at cb
      have w0 : (Lit.int .u8 (b15 % 128)).wf = true := wf_byte (by omega)
      go_wp2_with (refine wpList_store_elem (w := wr) rfl 5 _ _ rfl gb 15 rfl 27 .u8 _ (b15 % 128) rfl br (by rw [HBL0.out]; omega) info_u8 w0 ?_; intro wz bz gz zz; rw [HB'.out] at bz)
      have b := hbl.grown gz hbl.size (fun r e => by cases e; omega)
      have hz := hr.grown gz (by intro e; injection e with e; omega)
      have kz := kr.grown gz (by intro e; injection e with e; omega)
      clear hbl hr br kr gz zz cb w0
      have HYL := Lib.hid (show Y.length = 16 by rw [← HY.out]; exact poly_length _ _)
      have HYW := Lib.hid (show ∀ z ∈ Y, (Lit.int .u8 z).wf = true from by rw [← HY.out]; exact bs_wf (poly_bytes _ _))
      have iz : Ints wz .u8 wz.heap.size (some ⟨gb, 0, none⟩) 16 bs' := by
        have := bz.ints (n := 16) (by rw [HBL.out]; omega)
        rwa [List.take_of_length_le (by rw [HBL.out]; omega)] at this
      refine wp_region_held (S := fun W => Below wz.heap.size wz W) (by kernel_rfl) ?_
      change wpAnyH _ _ _ _ _ _ _ _ wz.drew
      have c0_0 := (Below.refl wz.heap.size wz).drew
      refine Held.take (v := .agg (arr .u8 (smallK 2 half))) 0 (some 25) rfl rfl (by kernel_rfl) (by kernel_rfl) (by kernel_rfl) (fun _ _ _ h => h) rfl (Held.y_load_Row (zs := (smallK 2 half)) rfl rfl Tryd.underlying22 info_key HKL.out (fun W hW => Row.below kz hW kz.lt)) c0_0 ?_
      simp only [Act.put, List.setIfInBounds_toArray, List.set_cons_zero, List.set_cons_succ]
      refine Held.take (v := .slice (some ⟨gb, 0, none⟩) 16 16) 1 (some 26) rfl rfl (by kernel_rfl) (by kernel_rfl) (by kernel_rfl) (fun _ _ _ h => h) rfl (Held.y_slice rfl (fun W => run_slice_arr_all (P := Tryd.prog) 27 5 16 gb W Tryd.underlying27 (by kernel_rfl) (by omega))) c0_0 ?_
      simp only [Act.put, List.setIfInBounds_toArray, List.set_cons_zero, List.set_cons_succ]
      refine Held.two 2 4 (by kernel_rfl) ?_ ?_
      · refine Held.op_build 2 (some 27) 23 25 1 (.slice none 0 0) 24 [.slice (some ⟨gb, 0, none⟩) 16 16] rfl rfl rfl rfl Tryd.underlying23 info_bytes (by simp [Act.eval]) (by simp [Value.cells]) (by simp [Value.oneCell']) rfl (by omega) (by omega) ?_
        intro p2 w1 v2 b1
        have c0_1 := c0_0.trans (b1.mono c0_0.size)
        have c1_1 := Below.refl w1.heap.size w1
        refine ⟨c0_1, ?_⟩
        simp only [Act.put, List.setIfInBounds_toArray, List.set_cons_zero, List.set_cons_succ]
        refine Held.two 3 4 (by kernel_rfl) ?_ ?_
        · refine Held.op_call 3 (some 28) 11 #[.agg (arr .u8 (smallK 2 half)), .slice (some ⟨p2, 0, none⟩) 1 1] rfl rfl rfl rfl (enters_of Tryd.func11 (by kernel_rfl) rfl) (by simp [Act.eval])
            (tag_1 (smallK 2 half) (some ⟨p2, 0, none⟩) (some ⟨gb, 0, none⟩) 16 16 bs' _ HKL.out HKB.out (v2.below c1_1 |>.more c1_1.size) ((iz.below c0_1).more c0_1.size) (Nat.le_refl 16) (by simp [maxLen]) (by omega) HBB.out (hT.below (b.trans (c0_1.mono b.size)) hT.lt)) ?_
          rw [HY.out]
          rintro e w2 ⟨rfl, b2⟩
          have c0_2 := c0_1.trans (b2.mono c0_1.size)
          have c1_2 := b2
          refine ⟨_, rfl, c0_2, ?_⟩
          simp only [Act.put, List.setIfInBounds_toArray, List.set_cons_zero, List.set_cons_succ]
          refine Held.one 4 (by kernel_rfl) ?_
          refine Held.op_alloc_Row 4 (some 7) 27 .u8 16 rfl rfl rfl rfl zero_16b ?_
          intro p4 w3 r4 b3 h4
          have c0_3 := c0_2.trans (b3.mono c0_2.size)
          have c1_3 := c1_2.trans (b3.mono c1_2.size)
          have c3_3 := Below.refl w3.heap.size w3
          have q4 := Nat.le_trans c0_2.size h4.out
          refine ⟨c0_3, ?_⟩
          simp only [Act.put, List.setIfInBounds_toArray, List.set_cons_zero, List.set_cons_succ]
          refine Held.one 5 (by kernel_rfl) ?_
          refine Held.op_store_RowL 5 none 27 p4 27 .u8 _ Y rfl rfl rfl rfl rfl rfl (r4.below c3_3 r4.lt) 16 info_16b HYL.out (by simp) HYW.out ?_
          intro w4 yr g5
          have c0_4 := c0_3.grown g5 c0_3.size (fun r e => by have := h4.out; have := c0_2.size; cases e; omega)
          refine ⟨c0_4, ?_⟩
          simp only [Act.put]
          refine wpAnyH_done (by kernel_rfl) ?_ _
          have b9 := b.trans (c0_4.mono b.size)
          have h9 := Row.below hz c0_4 hz.lt
          have d9 := Row.below bz c0_4 bz.lt
          have lz := bz.lt
          have l4 := h4.out
          have HP4 := Lib.hid (show wz.heap.size ≤ p4 by have := c0_2.size; omega)
          go_wp2_with fail
          go_loopw [8, 9] (fun c i wr => ∃ k : Nat, k ≤ 16 ∧ i = .int .i64 k ∧ c = .int .i64 (cout 0 S k) ∧ Below w.heap.size w wr ∧ Row wr w.heap.size 27 .u8 half ∧ Row wr gb 27 .u8 bs' ∧  Row wr p4 27 .u8 Y) (fun _ i _ => 16 - (intOf i).toNat)
          case atStart => exact ⟨0, by omega, rfl, rfl, b9, h9, d9,  yr⟩
          case round =>
            clear b9 h9 d9 yr 
            obtain ⟨k, hk, rfl, rfl, hbl, hr, br,  yr⟩ := hrel
            have hk0 : (0 : Int) ≤ (k : Int) := by omega
            by_cases hlt : k < 16
            · have hlt' : (k : Int) < 16 := by omega
              have ch := hr.cell (i := k) (by rw [HHL.out]; exact hlt)
              have cb := br.cell (i := k) (by rw [HBL.out]; exact hlt)
              have cy := yr.cell (i := k) (by rw [HYL.out]; exact hlt)
              rw [HYG.out k hlt, HSG.out k hlt] at cy
              have HNX := Lib.hid (HOS.out k)
              rw [HSG.out k hlt] at HNX
              have hc := HCS.out k
              have hx := HHA.out k
              have hy := HBA.out k
              generalize half.getD k 0 = x at *
              generalize bs'.getD k 0 = y at *
              generalize cout 0 S k = c at *
              have w1 : IntKind.i64.wrap x = x := IntWalk.i64_in _ (by omega)
              have w2 : IntKind.i64.wrap y = y := IntWalk.i64_in _ (by omega)
              have w3 : IntKind.i64.wrap (c + x) = c + x := IntWalk.i64_in _ (by omega)
              have w4 : IntKind.i64.wrap (c + x + 2 * y) = c + x + 2 * y := IntWalk.i64_in _ (by omega)
              have w7 : IntKind.i64.wrap (2 * y) = 2 * y := IntWalk.i64_in _ (by omega)
              have w5 : IntKind.u8.wrap (c + x + 2 * y) = (c + x + 2 * y) % 256 := by simp [IntKind.wrap, IntKind.bits, IntKind.signed]
              have w6 : (c + (x + 2 * y)) = c + x + 2 * y := by omega
              rw [w6] at cy HNX
              go_wp2_with fail
              go_quiet (fail)
              go_wp2_with fail
              go_roundw
              case rel => exact ⟨k + 1, by omega, by go_num, by rw [HNX.out], below_drewN hbl _, hr.drewN _, br.drewN _, yr.drewN _⟩
              case measure => simp [intOf]; omega
            · have hnl : ¬ (k : Int) < 16 := by omega
              clear hlt hk
              go_wp2_with fail
              refine (awake6_b _ (hT.below hbl hT.lt)).mono ?_
              rintro e w' ⟨rfl, hb'⟩
              go_wp2_with fail
              go_ret
              exact ⟨rfl, hbl.trans (hb'.mono hbl.size)⟩
        · refine Held.op_alloc_Row 4 (some 7) 27 .u8 16 rfl rfl rfl rfl zero_16b ?_
          intro p4 w2 r4 b2 h4
          have c0_2 := c0_1.trans (b2.mono c0_1.size)
          have c1_2 := b2
          have c2_2 := Below.refl w2.heap.size w2
          have q4 := Nat.le_trans c0_1.size h4.out
          refine ⟨c0_2, ?_⟩
          simp only [Act.put, List.setIfInBounds_toArray, List.set_cons_zero, List.set_cons_succ]
          refine Held.one 3 (by kernel_rfl) ?_
          refine Held.op_call 3 (some 28) 11 #[.agg (arr .u8 (smallK 2 half)), .slice (some ⟨p2, 0, none⟩) 1 1] rfl rfl rfl rfl (enters_of Tryd.func11 (by kernel_rfl) rfl) (by simp [Act.eval])
            (tag_1 (smallK 2 half) (some ⟨p2, 0, none⟩) (some ⟨gb, 0, none⟩) 16 16 bs' _ HKL.out HKB.out (v2.below c1_2 |>.more c1_2.size) ((iz.below c0_2).more c0_2.size) (Nat.le_refl 16) (by simp [maxLen]) (by omega) HBB.out (hT.below (b.trans (c0_2.mono b.size)) hT.lt)) ?_
          rw [HY.out]
          rintro e w3 ⟨rfl, b3⟩
          have c0_3 := c0_2.trans (b3.mono c0_2.size)
          have c1_3 := c1_2.trans (b3.mono c1_2.size)
          have c2_3 := b3
          refine ⟨_, rfl, c0_3, ?_⟩
          simp only [Act.put, List.setIfInBounds_toArray, List.set_cons_zero, List.set_cons_succ]
          refine Held.one 5 (by kernel_rfl) ?_
          refine Held.op_store_RowL 5 none 27 p4 27 .u8 _ Y rfl rfl rfl rfl rfl rfl (r4.below c2_3 r4.lt) 16 info_16b HYL.out (by simp) HYW.out ?_
          intro w4 yr g5
          have c0_4 := c0_3.grown g5 c0_3.size (fun r e => by have := h4.out; have := c0_1.size; cases e; omega)
          refine ⟨c0_4, ?_⟩
          simp only [Act.put]
          refine wpAnyH_done (by kernel_rfl) ?_ _
          have b9 := b.trans (c0_4.mono b.size)
          have h9 := Row.below hz c0_4 hz.lt
          have d9 := Row.below bz c0_4 bz.lt
          have lz := bz.lt
          have l4 := h4.out
          have HP4 := Lib.hid (show wz.heap.size ≤ p4 by have := c0_1.size; omega)
          go_wp2_with fail
          go_loopw [8, 9] (fun c i wr => ∃ k : Nat, k ≤ 16 ∧ i = .int .i64 k ∧ c = .int .i64 (cout 0 S k) ∧ Below w.heap.size w wr ∧ Row wr w.heap.size 27 .u8 half ∧ Row wr gb 27 .u8 bs' ∧  Row wr p4 27 .u8 Y) (fun _ i _ => 16 - (intOf i).toNat)
          case atStart => exact ⟨0, by omega, rfl, rfl, b9, h9, d9,  yr⟩
          case round =>
            clear b9 h9 d9 yr 
            obtain ⟨k, hk, rfl, rfl, hbl, hr, br,  yr⟩ := hrel
            have hk0 : (0 : Int) ≤ (k : Int) := by omega
            by_cases hlt : k < 16
            · have hlt' : (k : Int) < 16 := by omega
              have ch := hr.cell (i := k) (by rw [HHL.out]; exact hlt)
              have cb := br.cell (i := k) (by rw [HBL.out]; exact hlt)
              have cy := yr.cell (i := k) (by rw [HYL.out]; exact hlt)
              rw [HYG.out k hlt, HSG.out k hlt] at cy
              have HNX := Lib.hid (HOS.out k)
              rw [HSG.out k hlt] at HNX
              have hc := HCS.out k
              have hx := HHA.out k
              have hy := HBA.out k
              generalize half.getD k 0 = x at *
              generalize bs'.getD k 0 = y at *
              generalize cout 0 S k = c at *
              have w1 : IntKind.i64.wrap x = x := IntWalk.i64_in _ (by omega)
              have w2 : IntKind.i64.wrap y = y := IntWalk.i64_in _ (by omega)
              have w3 : IntKind.i64.wrap (c + x) = c + x := IntWalk.i64_in _ (by omega)
              have w4 : IntKind.i64.wrap (c + x + 2 * y) = c + x + 2 * y := IntWalk.i64_in _ (by omega)
              have w7 : IntKind.i64.wrap (2 * y) = 2 * y := IntWalk.i64_in _ (by omega)
              have w5 : IntKind.u8.wrap (c + x + 2 * y) = (c + x + 2 * y) % 256 := by simp [IntKind.wrap, IntKind.bits, IntKind.signed]
              have w6 : (c + (x + 2 * y)) = c + x + 2 * y := by omega
              rw [w6] at cy HNX
              go_wp2_with fail
              go_quiet (fail)
              go_wp2_with fail
              go_roundw
              case rel => exact ⟨k + 1, by omega, by go_num, by rw [HNX.out], below_drewN hbl _, hr.drewN _, br.drewN _, yr.drewN _⟩
              case measure => simp [intOf]; omega
            · have hnl : ¬ (k : Int) < 16 := by omega
              clear hlt hk
              go_wp2_with fail
              refine (awake6_b _ (hT.below hbl hT.lt)).mono ?_
              rintro e w' ⟨rfl, hb'⟩
              go_wp2_with fail
              go_ret
              exact ⟨rfl, hbl.trans (hb'.mono hbl.size)⟩
      · refine Held.op_alloc_Row 4 (some 7) 27 .u8 16 rfl rfl rfl rfl zero_16b ?_
        intro p4 w1 r4 b1 h4
        have c0_1 := c0_0.trans (b1.mono c0_0.size)
        have c1_1 := Below.refl w1.heap.size w1
        have q4 := Nat.le_trans c0_0.size h4.out
        refine ⟨c0_1, ?_⟩
        simp only [Act.put, List.setIfInBounds_toArray, List.set_cons_zero, List.set_cons_succ]
        refine Held.one 2 (by kernel_rfl) ?_
        refine Held.op_build 2 (some 27) 23 25 1 (.slice none 0 0) 24 [.slice (some ⟨gb, 0, none⟩) 16 16] rfl rfl rfl rfl Tryd.underlying23 info_bytes (by simp [Act.eval]) (by simp [Value.cells]) (by simp [Value.oneCell']) rfl (by omega) (by omega) ?_
        intro p2 w2 v2 b2
        have c0_2 := c0_1.trans (b2.mono c0_1.size)
        have c1_2 := b2
        have c2_2 := Below.refl w2.heap.size w2
        refine ⟨c0_2, ?_⟩
        simp only [Act.put, List.setIfInBounds_toArray, List.set_cons_zero, List.set_cons_succ]
        refine Held.one 3 (by kernel_rfl) ?_
        refine Held.op_call 3 (some 28) 11 #[.agg (arr .u8 (smallK 2 half)), .slice (some ⟨p2, 0, none⟩) 1 1] rfl rfl rfl rfl (enters_of Tryd.func11 (by kernel_rfl) rfl) (by simp [Act.eval])
          (tag_1 (smallK 2 half) (some ⟨p2, 0, none⟩) (some ⟨gb, 0, none⟩) 16 16 bs' _ HKL.out HKB.out (v2.below c2_2 |>.more c2_2.size) ((iz.below c0_2).more c0_2.size) (Nat.le_refl 16) (by simp [maxLen]) (by omega) HBB.out (hT.below (b.trans (c0_2.mono b.size)) hT.lt)) ?_
        rw [HY.out]
        rintro e w3 ⟨rfl, b3⟩
        have c0_3 := c0_2.trans (b3.mono c0_2.size)
        have c1_3 := c1_2.trans (b3.mono c1_2.size)
        have c2_3 := b3
        refine ⟨_, rfl, c0_3, ?_⟩
        simp only [Act.put, List.setIfInBounds_toArray, List.set_cons_zero, List.set_cons_succ]
        refine Held.one 5 (by kernel_rfl) ?_
        refine Held.op_store_RowL 5 none 27 p4 27 .u8 _ Y rfl rfl rfl rfl rfl rfl (r4.below c1_3 r4.lt) 16 info_16b HYL.out (by simp) HYW.out ?_
        intro w4 yr g5
        have c0_4 := c0_3.grown g5 c0_3.size (fun r e => by have := h4.out; have := c0_0.size; cases e; omega)
        refine ⟨c0_4, ?_⟩
        simp only [Act.put]
        refine wpAnyH_done (by kernel_rfl) ?_ _
        have b9 := b.trans (c0_4.mono b.size)
        have h9 := Row.below hz c0_4 hz.lt
        have d9 := Row.below bz c0_4 bz.lt
        have lz := bz.lt
        have l4 := h4.out
        have HP4 := Lib.hid (show wz.heap.size ≤ p4 by have := c0_0.size; omega)
        go_wp2_with fail
        go_loopw [8, 9] (fun c i wr => ∃ k : Nat, k ≤ 16 ∧ i = .int .i64 k ∧ c = .int .i64 (cout 0 S k) ∧ Below w.heap.size w wr ∧ Row wr w.heap.size 27 .u8 half ∧ Row wr gb 27 .u8 bs' ∧  Row wr p4 27 .u8 Y) (fun _ i _ => 16 - (intOf i).toNat)
        case atStart => exact ⟨0, by omega, rfl, rfl, b9, h9, d9,  yr⟩
        case round =>
          clear b9 h9 d9 yr 
          obtain ⟨k, hk, rfl, rfl, hbl, hr, br,  yr⟩ := hrel
          have hk0 : (0 : Int) ≤ (k : Int) := by omega
          by_cases hlt : k < 16
          · have hlt' : (k : Int) < 16 := by omega
            have ch := hr.cell (i := k) (by rw [HHL.out]; exact hlt)
            have cb := br.cell (i := k) (by rw [HBL.out]; exact hlt)
            have cy := yr.cell (i := k) (by rw [HYL.out]; exact hlt)
            rw [HYG.out k hlt, HSG.out k hlt] at cy
            have HNX := Lib.hid (HOS.out k)
            rw [HSG.out k hlt] at HNX
            have hc := HCS.out k
            have hx := HHA.out k
            have hy := HBA.out k
            generalize half.getD k 0 = x at *
            generalize bs'.getD k 0 = y at *
            generalize cout 0 S k = c at *
            have w1 : IntKind.i64.wrap x = x := IntWalk.i64_in _ (by omega)
            have w2 : IntKind.i64.wrap y = y := IntWalk.i64_in _ (by omega)
            have w3 : IntKind.i64.wrap (c + x) = c + x := IntWalk.i64_in _ (by omega)
            have w4 : IntKind.i64.wrap (c + x + 2 * y) = c + x + 2 * y := IntWalk.i64_in _ (by omega)
            have w7 : IntKind.i64.wrap (2 * y) = 2 * y := IntWalk.i64_in _ (by omega)
            have w5 : IntKind.u8.wrap (c + x + 2 * y) = (c + x + 2 * y) % 256 := by simp [IntKind.wrap, IntKind.bits, IntKind.signed]
            have w6 : (c + (x + 2 * y)) = c + x + 2 * y := by omega
            rw [w6] at cy HNX
            go_wp2_with fail
            go_quiet (fail)
            go_wp2_with fail
            go_roundw
            case rel => exact ⟨k + 1, by omega, by go_num, by rw [HNX.out], below_drewN hbl _, hr.drewN _, br.drewN _, yr.drewN _⟩
            case measure => simp [intOf]; omega
          · have hnl : ¬ (k : Int) < 16 := by omega
            clear hlt hk
            go_wp2_with fail
            refine (awake6_b _ (hT.below hbl hT.lt)).mono ?_
            rintro e w' ⟨rfl, hb'⟩
            go_wp2_with fail
            go_ret
            exact ⟨rfl, hbl.trans (hb'.mono hbl.size)⟩

theorem walk (z0 : List Int) (z1 : List Int) (w : World) (zl0 : z0.length = 16) (zw0 : ∀ z ∈ z0, (Lit.int .u8 z).wf = true) (zl1 : z1.length = 16) (zw1 : ∀ z ∈ z1, (Lit.int .u8 z).wf = true) (hL : laidMetH Tryd.prog laidList w) :
    Calls Tryd.prog 6 #[.agg (Mem.arr .u8 z0), .agg (Mem.arr .u8 z1)] w fun e w' => e = .returned (.bool true) ∧ Below w.heap.size w w' := by
  exact start z0 z1 w zl0 (bs_of_wf zw0) zl1 (bs_of_wf zw1) (poly_of_laid hL)

set_option maxRecDepth 100000 in
theorem door_met (os : Os) (args : Array Value) : laidMetH Tryd.prog laidList ((World.doorLaid Tryd.prog 400 os).forCall (fun _ _ => 0) ⟨#[], args, []⟩).memory :=
  laidMetH_of_parts3 (fuel := 8) (laidMet_of_run' 8 (by kernel_rfl) (by kernel_rfl)) (by kernel_rfl) (by kernel_rfl)

set_option maxRecDepth 100000 in
theorem lifted (os : Os) (started : os.Started) (H : Type) (enc : TypeId × Value → H) :
    ReturnsInHanded {} Tryd.checked os 6 .any (fun w args => (Rows.polyTwiceSpec.pre enc Tryd.prog Tryd.f6 [] false w args ∧ laidMetH Tryd.prog laidList w) ∧ sizedMet enc Tryd.prog Tryd.f6 (OpenSpec.ofChange Rows.polyTwiceSpec) false w args)
      (Rows.polyTwiceSpec.post enc Tryd.prog Tryd.f6 false true false false) := by
  refine returnsInHanded_of_change_and (C := Tryd.checked) (X := fun w _ => laidMetH Tryd.prog laidList w) (fun _ _ _ hh h => h.of_heap hh) own started (by kernel_rfl) Tryd.func6
    (ChangeSpec.witness_shaped (enc := enc) (C := Tryd.checked) (os := os) (X := fun w _ => laidMetH Tryd.prog laidList w) false (World.doorLaid Tryd.prog 400 os) #[.agg (Array.replicate 16 (.int .u8 0)), .agg (Array.replicate 16 (.int .u8 0))] 8 rfl (World.shaped_of_RefB (by kernel_rfl) (by kernel_rfl)) (by kernel_rfl) (by kernel_rfl) (by kernel_rfl) (door_met os _)) ?_
  intro W base args ds gs before hval0 hW _ _ hL _
  have hval : ∀ (j : Nat) t v, Tryd.f6.params[j]? = some t → args[j]? = some v → Value.okWide Tryd.prog W .any base t v := hval0
  have hW' := hW
  obtain ⟨p, q, hA0, hV, rfl, hfz, hnd⟩ := hW
  have hA : DataW.TrodAll enc Tryd.prog W 0 (fun _ => true) true Tryd.f6.params.toList args.toList ds p := hA0
  rw [Tryd.params6] at hA hval
  obtain ⟨v0, vs0, d0, ds0, p0, q0, hargs, rfl, rfl, h0, r0⟩ := trodAll_cons hA
  obtain ⟨v1, vs1, d1, ds1, p1, q1, rfl, rfl, rfl, h1, r1⟩ := trodAll_cons r0
  obtain ⟨rfl, rfl, rfl⟩ := trodAll_nil r1
  obtain rfl : args = #[v0, v1] := by cases args; simp_all
  obtain ⟨rfl, rfl⟩ := trodVars_none hV
  have k0 := h0
  have lt0 : ∀ x ∈ p0, x.block < W.heap.size := by obtain ⟨m, hm⟩ := k0; exact DataW.trod_lt m _ _ _ hm
  obtain ⟨z0, rfl, zl0, zw0⟩ := Mem.open_arr Tryd.underlying27 Tryd.underlying5 (by kernel_rfl) (by kernel_rfl) (hval 0 27 v0 rfl rfl) h0
  have k1 := h1
  have lt1 : ∀ x ∈ p1, x.block < W.heap.size := by obtain ⟨m, hm⟩ := k1; exact DataW.trod_lt m _ _ _ hm
  obtain ⟨z1, rfl, zl1, zw1⟩ := Mem.open_arr Tryd.underlying27 Tryd.underlying5 (by kernel_rfl) (by kernel_rfl) (hval 1 27 v1 rfl rfl) h1
  clear hA0 hval0
  refine (walk z0 z1 W zl0 zw0 zl1 zw1 hL).mono fun e W' ⟨he, bel⟩ => ?_
  subst he
  exact ⟨_, rfl, _, _, _, [], _, [], hW', trodAll_mk1 (shut_bool Tryd.underlying4 _), (trodAll_cons_mk (Below.trod laidOut (by kernel_rfl) (of_decide_eq_true (by kernel_rfl)) k0 bel lt0) (trodAll_cons_mk (Below.trod laidOut (by kernel_rfl) (of_decide_eq_true (by kernel_rfl)) k1 bel lt1) trodAll_mk0)), rfl, bel.frame _, fun h => by cases h⟩

theorem over : Rows.polyTwiceRow.holds Tryd.pinned (OpenSpec.ofChange Rows.polyTwiceSpec) :=
  OpenClaim.holds_of_wide 6 Tryd.f6 rfl rfl rfl rfl rfl rfl rfl ⟨rfl, rfl, rfl, rfl, rfl⟩ rfl rfl rfl rfl rfl (by kernel_rfl) Tryd.func6 (by kernel_rfl)
    (of_decide_eq_true (by kernel_rfl)) (by unfold Func.isWrapper; first | (rw [if_pos (by decide +kernel)]; kernel_rfl) | (rw [if_neg (by decide +kernel)]; exact ⟨rfl, rfl⟩))
    (fun os started H enc _ => lifted os started H enc)

/-- the statement -/
theorem proved : Rows.PolyTwiceCardSaid :=
  Claim7.holds_tied_plain_at .later [] [.data] true (true, "9d09f719a415488d530ca78bf13ef0359f19f2341467271f1f7cb433901f189e") false
    over (fun _ h => by cases h) (by kernel_rfl) (fun _ h => by cases h) polyTwice_row_tie rfl ⟨rfl, rfl⟩ (by kernel_rfl) rfl
    (fun f fn hf hfn => by
      obtain rfl : f = 6 := Option.some.inj ((show Tryd.prog.funcNamed "domino/dominolaw06.PolyTwice" = some 6 by kernel_rfl).symm.trans hf) |>.symm
      obtain rfl : fn = Tryd.f6 := (Option.some.inj (Tryd.func6.symm.trans hfn)).symm
      exact ⟨by kernel_rfl, fun j t ht => by
        rw [Tryd.params6] at ht
        have hm : t ∈ [27, 27] := by simpa using Array.mem_of_getElem? ht
        have hall : ([27, 27].all fun u => !Tryd.prog.wantsStandIn u) = true := by kernel_rfl
        exact (show Tryd.prog.wantsStandIn t = false by simpa using List.all_eq_true.1 hall t hm)⟩)
    (by kernel_rfl)
#print axioms proved
end Go.Proofs.YtebkicikpeicmaaDoor.polyTwice
