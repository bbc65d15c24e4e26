/-
  The law PolyEdges of package dominolaw06 returns true for every two numbers and two bytes: bytes and keys all ones, or nearly so, of all lengths about whole pieces, have the document's own tag. The table of kept bits of package poly holds what the program's text lays.
-/
import Derived.Test.YtebkicikpeicmaaDoorRows
import Derived.Test.YtebkicikpeicmaaDoorCards
import Derived.Test.YtebkicikpeicmaaDoorTie
import Derived.SevenTiedAt
import Derived.WalkKit
import Derived.ProofKit
import Derived.OpenShut
import Derived.ShutString
import Derived.ChangeOld
import Derived.Below
import Derived.LaidMore
import Derived.Stop.Joined
import Derived.Test.YtebkicikpeicmaaDoorPy7
import Derived.Test.YtebkicikpeicmaaDoorCut
namespace Go.Proofs.YtebkicikpeicmaaDoor.polyEdges
open Go.ChangeShapes Go.WideShapes Go.ChangeAt Go.RowKit
open Go.ChangeMaps (open_string shut_string)
open Go.Shelf Go.Proofs.YtebkicikpeicmaaDoor.Mem Go.Proofs.YtebkicikpeicmaaDoor.Help Go.Proofs.YtebkicikpeicmaaDoor.Sum Go.Proofs.YtebkicikpeicmaaDoor.Sha Go.Proofs.YtebkicikpeicmaaDoor.Po Go.Proofs.YtebkicikpeicmaaDoor
set_option linter.unusedVariables false

theorem own : ownKnob Tryd.prog.godebug = none := by kernel_rfl
theorem laidOut : laidOutB Tryd.prog = true := by kernel_rfl

/-- what a slice that came in leads to -/
def IsRow (k : IntKind) (w : World) (a : Option Addr) (len cap : Nat) (zs : List Int) : Prop :=
  (a = none ∧ len = 0 ∧ cap = 0 ∧ zs = []) ∨
  ∃ x, a = some x ∧ len ≤ cap ∧ cap ≤ maxLen ∧ zs.length = cap ∧ (∀ i, i < zs.length → w.cell? (x.add i) = some (.int k (zs.getD i 0))) ∧ ∀ n ∈ zs, (Lit.int k n).wf = true

def laidList : List (String × DataW Unit) := [("domino/poly.kept", Rows.laid_domino_poly_kept)]

attribute [local irreducible] wpList Calls
theorem info_bytes : (Tryd.prog.info? 25).map (fun i => (i.zero, i.size, i.bytes)) = some (some (.slice none 0 0), 1, 24) := by kernel_rfl
theorem bs_set {zs : List Int} (h : Bs zs) (i : Nat) {x : Int} (hx : 0 ≤ x ∧ x ≤ 255) : Bs (zs.set i x) := fun z hz => by
  rcases List.mem_or_eq_of_mem_set hz with h1 | h1
  · exact h z h1
  · rw [h1]; exact hx
theorem index_of (x : Int) {n : Nat} (k : Int) (hk : k = (n : Int)) (hn : 0 < n) (hn' : n ≤ 1000000) : ∃ t : Nat, wrap64 ((IntKind.u64.wrap x).tmod k) = (t : Int) ∧ t < n := by
  subst hk
  have hu0 : 0 ≤ IntKind.u64.wrap x := by rw [IntKind.wrap_u64]; omega
  have h1 : 0 ≤ IntKind.u64.wrap x % (n : Int) := Int.emod_nonneg _ (by omega)
  have h2 : IntKind.u64.wrap x % (n : Int) < n := Int.emod_lt_of_pos _ (by omega)
  rw [Int.tmod_eq_emod_of_nonneg hu0]
  exact ⟨(IntKind.u64.wrap x % (n : Int)).toNat, by unfold wrap64; omega, by omega⟩
set_option maxRecDepth 100000 in
set_option maxHeartbeats 8000000 in
theorem start (y : Int) (fill low : Int) (x : Int) (w : World) (hfill : 0 ≤ fill ∧ fill ≤ 255) (hlow : 0 ≤ low ∧ low ≤ 255) (hT : TabK w 0 .u8 keptI) :
    Calls Tryd.prog 4 #[.int .i64 y, .int .u8 fill, .int .u8 low, .int .i64 x] w fun e w' => e = .returned (.bool true) ∧ Below w.heap.size w w' := by
  obtain ⟨N, hN, hN2⟩ := index_of y (n := 80) 80 rfl (by omega) (by omega)
  have HN2 := Lib.hid hN2
  have hNi : (N : Int) < 80 := by omega
  have hN0 : (0 : Int) ≤ (N : Int) := by omega
  have hNw : IntKind.u64.wrap (N : Int) = (N : Int) := by rw [IntKind.wrap_u64]; omega
  clear hN2
  go_enter Tryd.func4, Tryd.ntmps4
  go_wp2_with (refine wpList_make_Row w rfl _ _ 25 rfl 5 .u8 1 Tryd.underlying25 Help.info_u8 .i64 .i64 _ _ N rfl rfl hN hN (by omega) (by have := HN2.out; omega) ?_; intro w1 r1 g1 z1)
  have b1 : Below w.heap.size w w1 := (Below.refl _ w).grown g1 (Nat.le_refl _) (by simp)
  obtain ⟨gb, hgb⟩ : ∃ g, w.heap.size = g := ⟨_, rfl⟩
  have HGB := Lib.hid hgb
  rw [hgb] at r1
  rw [hgb]
  clear hgb hN g1 z1
  go_loopw [21] (fun i wr => ∃ (j : Nat) (zs : List Int), j ≤ N ∧ i = .int .i64 j ∧ Hid (zs.length = N) ∧ Hid (Bs zs) ∧ Below w.heap.size w wr ∧ Row wr gb 5 .u8 zs) (fun i _ => N - (intOf i).toNat)
  case atStart => exact ⟨0, _, by omega, rfl, Lib.hid (by simp), Lib.hid (zeros_bytes N), b1, r1⟩
  case round =>
    clear b1 r1
    obtain ⟨j, zs, hj, rfl, HZL, HZB, hbl, br⟩ := hrel
    have hj0 : (0 : Int) ≤ (j : Int) := by omega
    by_cases hlj : j < N
    · have hlj' : (j : Int) < (N : Int) := by omega
      have hcv : IntKind.u8.wrap (j : Int) = (j : Int) := IntWalk.u8_in _ (by omega)
      have hcv2 : (j : Int) % 256 = (j : Int) := by omega
      have hv := wf_u8 (wf_bits .and .u8 fill (j : Int))
      obtain ⟨v, hve⟩ : ∃ v, bits .and .u8 fill (j : Int) = v := ⟨_, rfl⟩
      rw [hve] at hv
      have hsub : IntKind.u8.wrap (255 - v) = 255 - v := IntWalk.u8_in _ (by omega)
      have hsub2 : (255 - v) % 256 = 255 - v := by omega
      go_wp2_with (refine wpList_store_elem (w := wr) rfl 5 _ _ rfl gb j rfl 5 .u8 _ (255 - v) rfl br (by rw [HZL.out]; exact hlj) info_u8 (wf_byte (by omega)) ?_; intro w8 q8 g8 z8)
      go_roundw
      case rel => exact ⟨j + 1, _, by omega, by go_num, Lib.hid (by rw [List.length_set]; exact HZL.out), Lib.hid (bs_set HZB.out j (by omega)), hbl.grown g8 hbl.size (fun r e => by have := HGB.out; cases e; omega), q8⟩
      case measure => simp [intOf]; omega
    · have hnl : ¬ (j : Int) < (N : Int) := by omega
      clear hlj hj hj0
      by_cases hNz : N = 0
      · have hNn : ¬ (0 : Int) < (N : Int) := by omega
        obtain ⟨w5, hw5⟩ : ∃ w5, wr = w5 := ⟨_, rfl⟩
        rw [hw5] at hbl br ⊢
        have b5 := hbl
        have r5 := br
        clear hw5 hbl br hNz
        go_wp2_with (refine wpList_alloc_Row (w := w5) rfl 22 rfl .u8 32 zero_key ?_; intro w6 r6 g6 z6)
        obtain ⟨gk, hgk⟩ : ∃ g, w5.heap.size = g := ⟨_, rfl⟩
        have lk := r5.lt
        have b6 := b5.grown g6 b5.size (by simp)
        have q6 := r5.grown g6 (by simp)
        rw [hgk] at lk r6 ⊢
        clear hgk r5 b5 g6 z6
        go_loopw [44] (fun i wr => ∃ (j : Nat) (ks : List Int), j ≤ 32 ∧ i = .int .i64 j ∧ Hid (ks.length = 32) ∧ Hid (Bs ks) ∧ Below w.heap.size w wr ∧ Row wr gb 5 .u8 zs ∧ Row wr gk 22 .u8 ks) (fun i _ => 32 - (intOf i).toNat)
        case atStart => exact ⟨0, _, by omega, rfl, Lib.hid (by simp), Lib.hid (zeros_bytes 32), b6, q6, r6⟩
        case round =>
          clear b6 q6 r6
          obtain ⟨j, ks, hj, rfl, HKL, HKB, hbl, br, kr⟩ := hrel
          have hj0 : (0 : Int) ≤ (j : Int) := by omega
          by_cases hlj : j < 32
          · have hlj' : (j : Int) < 32 := by omega
            go_wp2_with (refine wpList_store_elem (w := wr) rfl 5 _ _ rfl gk j rfl 22 .u8 _ 255 rfl kr (by rw [HKL.out]; exact hlj) info_u8 rfl ?_; intro w8 q8 g8 z8)
            go_roundw
            case rel => exact ⟨j + 1, _, by omega, by go_num, Lib.hid (by rw [List.length_set]; exact HKL.out), Lib.hid (bs_set HKB.out j (by omega)), hbl.grown g8 hbl.size (fun r e => by have := HGB.out; cases e; omega), br.grown g8 (by intro e; injection e with e; omega), q8⟩
            case measure => simp [intOf]; omega
          · have hnl : ¬ (j : Int) < 32 := by omega
            clear hlj hj
            obtain ⟨u, hu, hu2⟩ := index_of x (n := 32) 32 rfl (by omega) (by omega)
            have hui : (u : Int) < 32 := by omega
            have HU2 := Lib.hid hu2
            clear hu2
            go_wp2_with (refine wpList_store_elem (w := wr) rfl 5 _ _ rfl gk u rfl 22 .u8 _ low rfl kr (by rw [HKL.out]; exact HU2.out) info_u8 (wf_byte hlow) ?_; intro wz kz' gz zz)
            have kz := kz'
            have b := hbl.grown gz hbl.size (fun r e => by have := HGB.out; cases e; omega)
            have bz := br.grown gz (by intro e; injection e with e; omega)
            have HKL' := Lib.hid (show (ks.set u low).length = 32 by rw [List.length_set]; exact HKL.out)
            have HKB' := Lib.hid (bs_set HKB.out u hlow)
            clear HKL HKB kr br hbl gz zz kz'
            obtain ⟨ks', hks⟩ : ∃ ks', ks.set u low = ks' := ⟨_, rfl⟩
            rw [hks] at kz HKL' HKB'
            clear hks
            obtain ⟨ks, rfl⟩ : ∃ k, k = ks' := ⟨_, rfl⟩
            have HKL := HKL'
            have HKB := HKB'
            have iz : Ints wz .u8 wz.heap.size (some ⟨gb, 0, none⟩) N zs := by
              have := bz.ints (n := N) (by rw [HZL.out]; omega)
              rwa [List.take_of_length_le (by rw [HZL.out]; omega)] at this
            have HPL := Lib.hid (poly_length ks zs)
            refine wp_region_held (S := fun W => Below wz.heap.size wz W) (by kernel_rfl) ?_
            change wpAnyH _ _ _ _ _ _ _ _ wz.drew
            have c0_0 := (Below.refl wz.heap.size wz).drew
            refine Held.one 0 (by kernel_rfl) ?_
            refine Held.op_call 0 (some 56) 9 #[] rfl rfl rfl rfl (enters_of Tryd.func9 (by kernel_rfl) rfl) (by simp)
              (awake6_b _ (hT.below (b.trans (c0_0.mono b.size)) hT.lt)) ?_
            rintro e w1 ⟨rfl, b1⟩
            have c0_1 := c0_0.trans (b1.mono c0_0.size)
            refine ⟨_, rfl, c0_1, ?_⟩
            simp only [Act.put, List.setIfInBounds_toArray, List.set_cons_zero, List.set_cons_succ]
            refine Held.take (v := .bool true) 1 (some 57) rfl rfl (by kernel_rfl) (by kernel_rfl) (by kernel_rfl) (fun _ _ _ h => h) rfl (Held.y_move rfl rfl) c0_1 ?_
            simp only [Act.put, List.setIfInBounds_toArray, List.set_cons_zero, List.set_cons_succ]
            refine Held.take (v := .agg (arr .u8 ks)) 2 (some 58) rfl rfl (by kernel_rfl) (by kernel_rfl) (by kernel_rfl) (fun _ _ _ h => h) rfl (Held.y_load_Row (zs := ks) rfl rfl Tryd.underlying22 info_key HKL.out (fun W hW => Row.below kz hW kz.lt)) c0_1 ?_
            simp only [Act.put, List.setIfInBounds_toArray, List.set_cons_zero, List.set_cons_succ]
            refine Held.take (v := .slice (some ⟨gb, 0, none⟩) N N) 3 (some 59) rfl rfl (by kernel_rfl) (by kernel_rfl) (by kernel_rfl) (fun _ _ _ h => h) rfl (Held.y_move rfl rfl) c0_1 ?_
            simp only [Act.put, List.setIfInBounds_toArray, List.set_cons_zero, List.set_cons_succ]
            refine Held.take (v := .agg (arr .u8 ks)) 6 (some 62) rfl rfl (by kernel_rfl) (by kernel_rfl) (by kernel_rfl) (fun _ _ _ h => h) rfl (Held.y_load_Row (zs := ks) rfl rfl Tryd.underlying22 info_key HKL.out (fun W hW => Row.below kz hW kz.lt)) c0_1 ?_
            simp only [Act.put, List.setIfInBounds_toArray, List.set_cons_zero, List.set_cons_succ]
            refine Held.take (v := .slice (some ⟨gb, 0, none⟩) N N) 7 (some 63) rfl rfl (by kernel_rfl) (by kernel_rfl) (by kernel_rfl) (fun _ _ _ h => h) rfl (Held.y_move rfl rfl) c0_1 ?_
            simp only [Act.put, List.setIfInBounds_toArray, List.set_cons_zero, List.set_cons_succ]
            refine Held.one 4 (by kernel_rfl) ?_
            refine Held.op_build 4 (some 60) 23 25 1 (.slice none 0 0) 24 [.slice (some ⟨gb, 0, none⟩) N N] rfl rfl rfl rfl Tryd.underlying23 info_bytes (by simp [Act.eval]) (by simp [Value.cells]) (by simp [Value.oneCell']) rfl (by omega) (by omega) ?_
            intro p4 w2 v4 b2
            have c0_2 := c0_1.trans (b2.mono c0_1.size)
            have c2_2 := Below.refl w2.heap.size w2
            refine ⟨c0_2, ?_⟩
            simp only [Act.put, List.setIfInBounds_toArray, List.set_cons_zero, List.set_cons_succ]
            refine Held.one 5 (by kernel_rfl) ?_
            refine Held.op_call 5 (some 61) 11 #[.agg (arr .u8 ks), .slice (some ⟨p4, 0, none⟩) 1 1] rfl rfl rfl rfl (enters_of Tryd.func11 (by kernel_rfl) rfl) (by simp [Act.eval])
              (tag_1 ks (some ⟨p4, 0, none⟩) (some ⟨gb, 0, none⟩) N N zs _ HKL.out HKB.out (v4.below c2_2 |>.more c2_2.size) ((iz.below c0_2).more c0_2.size) (Nat.le_refl N) (by unfold maxLen; omega) (by omega) HZB.out (hT.below (b.trans (c0_2.mono b.size)) hT.lt)) ?_
            rintro e w3 ⟨rfl, b3⟩
            have c0_3 := c0_2.trans (b3.mono c0_2.size)
            have c2_3 := b3
            refine ⟨_, rfl, c0_3, ?_⟩
            simp only [Act.put, List.setIfInBounds_toArray, List.set_cons_zero, List.set_cons_succ]
            refine Held.one 8 (by kernel_rfl) ?_
            refine Held.op_call 8 (some 64) 12 #[.agg (arr .u8 ks), .slice (some ⟨gb, 0, none⟩) N N] rfl rfl rfl rfl (enters_of Tryd.func12 (by kernel_rfl) rfl) (by simp [Act.eval])
              (rtag_any ks wz.heap.size (some ⟨gb, 0, none⟩) N N zs _ HKL.out HKB.out (iz.below c0_3) HZB.out c0_3.size (by omega)) ?_
            rintro e w4 ⟨rfl, b4⟩
            have c0_4 := c0_3.trans (b4.mono c0_3.size)
            have c2_4 := c2_3.trans (b4.mono c2_3.size)
            refine ⟨_, rfl, c0_4, ?_⟩
            simp only [Act.put, List.setIfInBounds_toArray, List.set_cons_zero, List.set_cons_succ]
            refine Held.take (v := .bool true) 9 (some 65) rfl rfl (by kernel_rfl) (by kernel_rfl) (by kernel_rfl) (fun _ _ _ h => h) rfl (Held.y_eql rfl rfl rfl (by kernel_rfl) Tryd.underlying27 Tryd.underlying5 (by kernel_rfl) HPL.out) c0_4 ?_
            simp only [Act.put, List.setIfInBounds_toArray, List.set_cons_zero, List.set_cons_succ]
            refine Held.take (v := .bool true) 10 (some 66) rfl rfl (by kernel_rfl) (by kernel_rfl) (by kernel_rfl) (fun _ _ _ h => h) rfl (Held.y_pick rfl rfl rfl) c0_4 ?_
            simp only [Act.put, List.setIfInBounds_toArray, List.set_cons_zero, List.set_cons_succ]
            refine Held.take (v := .bool true) 11 (some 8) rfl rfl (by kernel_rfl) (by kernel_rfl) (by kernel_rfl) (fun _ _ _ h => h) rfl (Held.y_assign rfl rfl) c0_4 ?_
            simp only [Act.put, List.setIfInBounds_toArray, List.set_cons_zero, List.set_cons_succ]
            refine wpAnyH_done (by kernel_rfl) ?_ _
            go_wp2_with fail
            go_ret
            exact ⟨rfl, b.trans (c0_4.mono b.size)⟩
      · have hNn : (0 : Int) < (N : Int) := by omega
        have hNe : ¬ (N : Int) = 0 := by omega
        obtain ⟨t, ht, ht2⟩ := index_of x (n := N) (N : Int) rfl (by omega) (by have := HN2.out; omega)
        have HT2 := Lib.hid ht2
        have hti : (t : Int) < (N : Int) := by omega
        clear ht2 hNz
        go_wp2_with (first
          | (refine wpList_store_elem (w := wr) rfl 5 _ _ rfl gb t rfl 5 .u8 _ low rfl br (by rw [HZL.out]; exact HT2.out) info_u8 (wf_byte hlow) ?_; intro w5 q5 g5 z5)
          | (refine wpList_alloc_Row (w := w5) rfl 22 rfl .u8 32 zero_key ?_; intro w6 r6 g6 z6))
        have b5 := hbl.grown g5 hbl.size (fun r e => by have := HGB.out; cases e; omega)
        have HZL' := Lib.hid (show (zs.set t low).length = N by rw [List.length_set]; exact HZL.out)
        have HZB' := Lib.hid (bs_set HZB.out t hlow)
        clear HZL HZB br hbl g5 z5
        obtain ⟨zs', hzs⟩ : ∃ z, zs.set t low = z := ⟨_, rfl⟩
        rw [hzs] at q5 HZL' HZB'
        clear hzs
        obtain ⟨zs, rfl⟩ : ∃ z, z = zs' := ⟨_, rfl⟩
        have HZL := HZL'
        have HZB := HZB'
        have r5 := q5
        clear q5
        obtain ⟨gk, hgk⟩ : ∃ g, w5.heap.size = g := ⟨_, rfl⟩
        have lk := r5.lt
        have b6 := b5.grown g6 b5.size (by simp)
        have q6 := r5.grown g6 (by simp)
        rw [hgk] at lk r6 ⊢
        clear hgk r5 b5 g6 z6
        go_loopw [44] (fun i wr => ∃ (j : Nat) (ks : List Int), j ≤ 32 ∧ i = .int .i64 j ∧ Hid (ks.length = 32) ∧ Hid (Bs ks) ∧ Below w.heap.size w wr ∧ Row wr gb 5 .u8 zs ∧ Row wr gk 22 .u8 ks) (fun i _ => 32 - (intOf i).toNat)
        case atStart => exact ⟨0, _, by omega, rfl, Lib.hid (by simp), Lib.hid (zeros_bytes 32), b6, q6, r6⟩
        case round =>
          clear b6 q6 r6
          obtain ⟨j, ks, hj, rfl, HKL, HKB, hbl, br, kr⟩ := hrel
          have hj0 : (0 : Int) ≤ (j : Int) := by omega
          by_cases hlj : j < 32
          · have hlj' : (j : Int) < 32 := by omega
            go_wp2_with (refine wpList_store_elem (w := wr) rfl 5 _ _ rfl gk j rfl 22 .u8 _ 255 rfl kr (by rw [HKL.out]; exact hlj) info_u8 rfl ?_; intro w8 q8 g8 z8)
            go_roundw
            case rel => exact ⟨j + 1, _, by omega, by go_num, Lib.hid (by rw [List.length_set]; exact HKL.out), Lib.hid (bs_set HKB.out j (by omega)), hbl.grown g8 hbl.size (fun r e => by have := HGB.out; cases e; omega), br.grown g8 (by intro e; injection e with e; omega), q8⟩
            case measure => simp [intOf]; omega
          · have hnl : ¬ (j : Int) < 32 := by omega
            clear hlj hj
            obtain ⟨u, hu, hu2⟩ := index_of x (n := 32) 32 rfl (by omega) (by omega)
            have hui : (u : Int) < 32 := by omega
            have HU2 := Lib.hid hu2
            clear hu2
            go_wp2_with (refine wpList_store_elem (w := wr) rfl 5 _ _ rfl gk u rfl 22 .u8 _ low rfl kr (by rw [HKL.out]; exact HU2.out) info_u8 (wf_byte hlow) ?_; intro wz kz' gz zz)
            have kz := kz'
            have b := hbl.grown gz hbl.size (fun r e => by have := HGB.out; cases e; omega)
            have bz := br.grown gz (by intro e; injection e with e; omega)
            have HKL' := Lib.hid (show (ks.set u low).length = 32 by rw [List.length_set]; exact HKL.out)
            have HKB' := Lib.hid (bs_set HKB.out u hlow)
            clear HKL HKB kr br hbl gz zz kz'
            obtain ⟨ks', hks⟩ : ∃ ks', ks.set u low = ks' := ⟨_, rfl⟩
            rw [hks] at kz HKL' HKB'
            clear hks
            obtain ⟨ks, rfl⟩ : ∃ k, k = ks' := ⟨_, rfl⟩
            have HKL := HKL'
            have HKB := HKB'
            have iz : Ints wz .u8 wz.heap.size (some ⟨gb, 0, none⟩) N zs := by
              have := bz.ints (n := N) (by rw [HZL.out]; omega)
              rwa [List.take_of_length_le (by rw [HZL.out]; omega)] at this
            have HPL := Lib.hid (poly_length ks zs)
            refine wp_region_held (S := fun W => Below wz.heap.size wz W) (by kernel_rfl) ?_
            change wpAnyH _ _ _ _ _ _ _ _ wz.drew
            have c0_0 := (Below.refl wz.heap.size wz).drew
            refine Held.one 0 (by kernel_rfl) ?_
            refine Held.op_call 0 (some 56) 9 #[] rfl rfl rfl rfl (enters_of Tryd.func9 (by kernel_rfl) rfl) (by simp)
              (awake6_b _ (hT.below (b.trans (c0_0.mono b.size)) hT.lt)) ?_
            rintro e w1 ⟨rfl, b1⟩
            have c0_1 := c0_0.trans (b1.mono c0_0.size)
            refine ⟨_, rfl, c0_1, ?_⟩
            simp only [Act.put, List.setIfInBounds_toArray, List.set_cons_zero, List.set_cons_succ]
            refine Held.take (v := .bool true) 1 (some 57) rfl rfl (by kernel_rfl) (by kernel_rfl) (by kernel_rfl) (fun _ _ _ h => h) rfl (Held.y_move rfl rfl) c0_1 ?_
            simp only [Act.put, List.setIfInBounds_toArray, List.set_cons_zero, List.set_cons_succ]
            refine Held.take (v := .agg (arr .u8 ks)) 2 (some 58) rfl rfl (by kernel_rfl) (by kernel_rfl) (by kernel_rfl) (fun _ _ _ h => h) rfl (Held.y_load_Row (zs := ks) rfl rfl Tryd.underlying22 info_key HKL.out (fun W hW => Row.below kz hW kz.lt)) c0_1 ?_
            simp only [Act.put, List.setIfInBounds_toArray, List.set_cons_zero, List.set_cons_succ]
            refine Held.take (v := .slice (some ⟨gb, 0, none⟩) N N) 3 (some 59) rfl rfl (by kernel_rfl) (by kernel_rfl) (by kernel_rfl) (fun _ _ _ h => h) rfl (Held.y_move rfl rfl) c0_1 ?_
            simp only [Act.put, List.setIfInBounds_toArray, List.set_cons_zero, List.set_cons_succ]
            refine Held.take (v := .agg (arr .u8 ks)) 6 (some 62) rfl rfl (by kernel_rfl) (by kernel_rfl) (by kernel_rfl) (fun _ _ _ h => h) rfl (Held.y_load_Row (zs := ks) rfl rfl Tryd.underlying22 info_key HKL.out (fun W hW => Row.below kz hW kz.lt)) c0_1 ?_
            simp only [Act.put, List.setIfInBounds_toArray, List.set_cons_zero, List.set_cons_succ]
            refine Held.take (v := .slice (some ⟨gb, 0, none⟩) N N) 7 (some 63) rfl rfl (by kernel_rfl) (by kernel_rfl) (by kernel_rfl) (fun _ _ _ h => h) rfl (Held.y_move rfl rfl) c0_1 ?_
            simp only [Act.put, List.setIfInBounds_toArray, List.set_cons_zero, List.set_cons_succ]
            refine Held.one 4 (by kernel_rfl) ?_
            refine Held.op_build 4 (some 60) 23 25 1 (.slice none 0 0) 24 [.slice (some ⟨gb, 0, none⟩) N N] rfl rfl rfl rfl Tryd.underlying23 info_bytes (by simp [Act.eval]) (by simp [Value.cells]) (by simp [Value.oneCell']) rfl (by omega) (by omega) ?_
            intro p4 w2 v4 b2
            have c0_2 := c0_1.trans (b2.mono c0_1.size)
            have c2_2 := Below.refl w2.heap.size w2
            refine ⟨c0_2, ?_⟩
            simp only [Act.put, List.setIfInBounds_toArray, List.set_cons_zero, List.set_cons_succ]
            refine Held.one 5 (by kernel_rfl) ?_
            refine Held.op_call 5 (some 61) 11 #[.agg (arr .u8 ks), .slice (some ⟨p4, 0, none⟩) 1 1] rfl rfl rfl rfl (enters_of Tryd.func11 (by kernel_rfl) rfl) (by simp [Act.eval])
              (tag_1 ks (some ⟨p4, 0, none⟩) (some ⟨gb, 0, none⟩) N N zs _ HKL.out HKB.out (v4.below c2_2 |>.more c2_2.size) ((iz.below c0_2).more c0_2.size) (Nat.le_refl N) (by unfold maxLen; omega) (by omega) HZB.out (hT.below (b.trans (c0_2.mono b.size)) hT.lt)) ?_
            rintro e w3 ⟨rfl, b3⟩
            have c0_3 := c0_2.trans (b3.mono c0_2.size)
            have c2_3 := b3
            refine ⟨_, rfl, c0_3, ?_⟩
            simp only [Act.put, List.setIfInBounds_toArray, List.set_cons_zero, List.set_cons_succ]
            refine Held.one 8 (by kernel_rfl) ?_
            refine Held.op_call 8 (some 64) 12 #[.agg (arr .u8 ks), .slice (some ⟨gb, 0, none⟩) N N] rfl rfl rfl rfl (enters_of Tryd.func12 (by kernel_rfl) rfl) (by simp [Act.eval])
              (rtag_any ks wz.heap.size (some ⟨gb, 0, none⟩) N N zs _ HKL.out HKB.out (iz.below c0_3) HZB.out c0_3.size (by omega)) ?_
            rintro e w4 ⟨rfl, b4⟩
            have c0_4 := c0_3.trans (b4.mono c0_3.size)
            have c2_4 := c2_3.trans (b4.mono c2_3.size)
            refine ⟨_, rfl, c0_4, ?_⟩
            simp only [Act.put, List.setIfInBounds_toArray, List.set_cons_zero, List.set_cons_succ]
            refine Held.take (v := .bool true) 9 (some 65) rfl rfl (by kernel_rfl) (by kernel_rfl) (by kernel_rfl) (fun _ _ _ h => h) rfl (Held.y_eql rfl rfl rfl (by kernel_rfl) Tryd.underlying27 Tryd.underlying5 (by kernel_rfl) HPL.out) c0_4 ?_
            simp only [Act.put, List.setIfInBounds_toArray, List.set_cons_zero, List.set_cons_succ]
            refine Held.take (v := .bool true) 10 (some 66) rfl rfl (by kernel_rfl) (by kernel_rfl) (by kernel_rfl) (fun _ _ _ h => h) rfl (Held.y_pick rfl rfl rfl) c0_4 ?_
            simp only [Act.put, List.setIfInBounds_toArray, List.set_cons_zero, List.set_cons_succ]
            refine Held.take (v := .bool true) 11 (some 8) rfl rfl (by kernel_rfl) (by kernel_rfl) (by kernel_rfl) (fun _ _ _ h => h) rfl (Held.y_assign rfl rfl) c0_4 ?_
            simp only [Act.put, List.setIfInBounds_toArray, List.set_cons_zero, List.set_cons_succ]
            refine wpAnyH_done (by kernel_rfl) ?_ _
            go_wp2_with fail
            go_ret
            exact ⟨rfl, b.trans (c0_4.mono b.size)⟩

theorem walk (a0 : Int) (a1 : Int) (a2 : Int) (a3 : Int) (w : World) (w0 : (Lit.int .i64 a0).wf = true) (w1 : (Lit.int .u8 a1).wf = true) (w2 : (Lit.int .u8 a2).wf = true) (w3 : (Lit.int .i64 a3).wf = true) (hL : laidMetH Tryd.prog laidList w) :
    Calls Tryd.prog 4 #[.int .i64 a0, .int .u8 a1, .int .u8 a2, .int .i64 a3] w fun e w' => e = .returned (.bool true) ∧ Below w.heap.size w w' := by
  exact start a0 a1 a2 a3 w (wf_u8 w1) (wf_u8 w2) (poly_of_laid hL)

set_option maxRecDepth 100000 in
theorem door_met (os : Os) (args : Array Value) : laidMetH Tryd.prog laidList ((World.doorLaid Tryd.prog 400 os).forCall (fun _ _ => 0) ⟨#[], args, []⟩).memory :=
  laidMetH_of_parts3 (fuel := 8) (laidMet_of_run' 8 (by kernel_rfl) (by kernel_rfl)) (by kernel_rfl) (by kernel_rfl)

set_option maxRecDepth 100000 in
theorem lifted (os : Os) (started : os.Started) (H : Type) (enc : TypeId × Value → H) :
    ReturnsInHanded {} Tryd.checked os 4 .any (fun w args => (Rows.polyEdgesSpec.pre enc Tryd.prog Tryd.f4 [] false w args ∧ laidMetH Tryd.prog laidList w) ∧ sizedMet enc Tryd.prog Tryd.f4 (OpenSpec.ofChange Rows.polyEdgesSpec) false w args)
      (Rows.polyEdgesSpec.post enc Tryd.prog Tryd.f4 false true false false) := by
  refine returnsInHanded_of_change_and (C := Tryd.checked) (X := fun w _ => laidMetH Tryd.prog laidList w) (fun _ _ _ hh h => h.of_heap hh) own started (by kernel_rfl) Tryd.func4
    (ChangeSpec.witness_shaped (enc := enc) (C := Tryd.checked) (os := os) (X := fun w _ => laidMetH Tryd.prog laidList w) false (World.doorLaid Tryd.prog 400 os) #[.int .i64 0, .int .u8 0, .int .u8 0, .int .i64 0] 8 rfl (World.shaped_of_RefB (by kernel_rfl) (by kernel_rfl)) (by kernel_rfl) (by kernel_rfl) (by kernel_rfl) (door_met os _)) ?_
  intro W base args ds gs before hval0 hW _ _ hL _
  have hval : ∀ (j : Nat) t v, Tryd.f4.params[j]? = some t → args[j]? = some v → Value.okWide Tryd.prog W .any base t v := hval0
  have hW' := hW
  obtain ⟨p, q, hA0, hV, rfl, hfz, hnd⟩ := hW
  have hA : DataW.TrodAll enc Tryd.prog W 0 (fun _ => true) true Tryd.f4.params.toList args.toList ds p := hA0
  rw [Tryd.params4] at hA hval
  obtain ⟨v0, vs0, d0, ds0, p0, q0, hargs, rfl, rfl, h0, r0⟩ := trodAll_cons hA
  obtain ⟨v1, vs1, d1, ds1, p1, q1, rfl, rfl, rfl, h1, r1⟩ := trodAll_cons r0
  obtain ⟨v2, vs2, d2, ds2, p2, q2, rfl, rfl, rfl, h2, r2⟩ := trodAll_cons r1
  obtain ⟨v3, vs3, d3, ds3, p3, q3, rfl, rfl, rfl, h3, r3⟩ := trodAll_cons r2
  obtain ⟨rfl, rfl, rfl⟩ := trodAll_nil r3
  obtain rfl : args = #[v0, v1, v2, v3] := by cases args; simp_all
  obtain ⟨rfl, rfl⟩ := trodVars_none hV
  obtain ⟨a0, rfl, rfl, rfl, w0⟩ := open_int Tryd.underlying3 (hval 0 3 v0 rfl rfl) h0
  obtain ⟨a1, rfl, rfl, rfl, w1⟩ := open_int Tryd.underlying5 (hval 1 5 v1 rfl rfl) h1
  obtain ⟨a2, rfl, rfl, rfl, w2⟩ := open_int Tryd.underlying5 (hval 2 5 v2 rfl rfl) h2
  obtain ⟨a3, rfl, rfl, rfl, w3⟩ := open_int Tryd.underlying3 (hval 3 3 v3 rfl rfl) h3
  clear hA0 hval0
  refine (walk a0 a1 a2 a3 W w0 w1 w2 w3 hL).mono fun e W' ⟨he, bel⟩ => ?_
  subst he
  exact ⟨_, rfl, _, _, _, [], _, [], hW', trodAll_mk1 (shut_bool Tryd.underlying4 _), (trodAll_cons_mk (shut_int Tryd.underlying3 w0) (trodAll_cons_mk (shut_int Tryd.underlying5 w1) (trodAll_cons_mk (shut_int Tryd.underlying5 w2) (trodAll_cons_mk (shut_int Tryd.underlying3 w3) trodAll_mk0)))), rfl, bel.frame _, fun h => by cases h⟩

theorem over : Rows.polyEdgesRow.holds Tryd.pinned (OpenSpec.ofChange Rows.polyEdgesSpec) :=
  OpenClaim.holds_of_wide 4 Tryd.f4 rfl rfl rfl rfl rfl rfl rfl ⟨rfl, rfl, rfl, rfl, rfl⟩ rfl rfl rfl rfl rfl (by kernel_rfl) Tryd.func4 (by kernel_rfl)
    (of_decide_eq_true (by kernel_rfl)) (by unfold Func.isWrapper; first | (rw [if_pos (by decide +kernel)]; kernel_rfl) | (rw [if_neg (by decide +kernel)]; exact ⟨rfl, rfl⟩))
    (fun os started H enc _ => lifted os started H enc)

/-- the statement -/
theorem proved : Rows.PolyEdgesCardSaid :=
  Claim7.holds_tied_plain_at .later [] [.data] true (true, "9d09f719a415488d530ca78bf13ef0359f19f2341467271f1f7cb433901f189e") false
    over (fun _ h => by cases h) (by kernel_rfl) (fun _ h => by cases h) polyEdges_row_tie rfl ⟨rfl, rfl⟩ (by kernel_rfl) rfl
    (fun f fn hf hfn => by
      obtain rfl : f = 4 := Option.some.inj ((show Tryd.prog.funcNamed "domino/dominolaw06.PolyEdges" = some 4 by kernel_rfl).symm.trans hf) |>.symm
      obtain rfl : fn = Tryd.f4 := (Option.some.inj (Tryd.func4.symm.trans hfn)).symm
      exact ⟨by kernel_rfl, fun j t ht => by
        rw [Tryd.params4] at ht
        have hm : t ∈ [3, 5, 5, 3] := by simpa using Array.mem_of_getElem? ht
        have hall : ([3, 5, 5, 3].all fun u => !Tryd.prog.wantsStandIn u) = true := by kernel_rfl
        exact (show Tryd.prog.wantsStandIn t = false by simpa using List.all_eq_true.1 hall t hm)⟩)
    (by kernel_rfl)
#print axioms proved
end Go.Proofs.YtebkicikpeicmaaDoor.polyEdges
