/-
  The law AeadStream of package dominolaw07 returns true for every key, nonce, bytes beside and two texts: sealed under one key and nonce, they are as unlike as they are, bit by bit. The tables of packages chacha and poly hold what the program's text lays.
-/
import Derived.Test.YtebcejncjljmhaaDoorRows
import Derived.Test.YtebcejncjljmhaaDoorCards
import Derived.Test.YtebcejncjljmhaaDoorTie
import Derived.SevenTiedAt
import Derived.WalkKit
import Derived.ProofKit
import Derived.OpenShut
import Derived.ShutString
import Derived.ChangeOld
import Derived.Below
import Derived.LaidMore
import Derived.Stop.Joined
import Derived.Test.YtebcejncjljmhaaDoorB5
import Derived.Test.YtebcejncjljmhaaDoorB2
namespace Go.Proofs.YtebcejncjljmhaaDoor.aeadStream
open Go.ChangeShapes Go.WideShapes Go.ChangeAt Go.RowKit
open Go.ChangeMaps (open_string shut_string)
open Go.Shelf Go.Proofs.YtebcejncjljmhaaDoor.Mem Go.Proofs.YtebcejncjljmhaaDoor.Help Go.Proofs.YtebcejncjljmhaaDoor.Sum Go.Proofs.YtebcejncjljmhaaDoor.Po Go.Proofs.YtebcejncjljmhaaDoor.Ae Go.Proofs.YtebcejncjljmhaaDoor
set_option linter.unusedVariables false

theorem own : ownKnob Tryd.prog.godebug = none := by kernel_rfl
theorem laidOut : laidOutB Tryd.prog = true := by kernel_rfl

/-- what a slice that came in leads to -/
def IsRow (k : IntKind) (w : World) (a : Option Addr) (len cap : Nat) (zs : List Int) : Prop :=
  (a = none ∧ len = 0 ∧ cap = 0 ∧ zs = []) ∨
  ∃ x, a = some x ∧ len ≤ cap ∧ cap ≤ maxLen ∧ zs.length = cap ∧ (∀ i, i < zs.length → w.cell? (x.add i) = some (.int k (zs.getD i 0))) ∧ ∀ n ∈ zs, (Lit.int k n).wf = true

def laidList : List (String × DataW Unit) := [("domino/chacha.start", Rows.laid_domino_chacha_start), ("domino/poly.kept", Rows.laid_domino_poly_kept)]

attribute [local irreducible] wpList Calls
theorem xor_three {x y s : Int} (hx : 0 ≤ x ∧ x ≤ 255) (hy : 0 ≤ y ∧ y ≤ 255) (hs : 0 ≤ s ∧ s ≤ 255) : bits .xor .u8 (bits .xor .u8 x s) (bits .xor .u8 y s) = bits .xor .u8 x y := by
  have h1 : x.toNat < 2 ^ 8 := by omega
  have h2 : s.toNat < 2 ^ 8 := by omega
  have h4 : y.toNat < 2 ^ 8 := by omega
  have h3 : x.toNat ^^^ s.toNat < 2 ^ 8 := Nat.xor_lt_two_pow h1 h2
  have h5 : y.toNat ^^^ s.toNat < 2 ^ 8 := Nat.xor_lt_two_pow h4 h2
  rw [u8_xor x s (by omega) (by omega) (by omega) (by omega), u8_xor y s (by omega) (by omega) (by omega) (by omega), u8_xor _ _ (by omega) (by omega) (by omega) (by omega), u8_xor x y (by omega) (by omega) (by omega) (by omega), Int.toNat_natCast, Int.toNat_natCast]
  congr 1
  rw [Nat.xor_comm y.toNat s.toNat, Nat.xor_assoc, ← Nat.xor_assoc s.toNat, Nat.xor_self, Nat.zero_xor]
theorem sealed_at (key nonce aad : List Int) {us : List Int} {q k : Nat} (hk : k < q) (hq : q ≤ us.length) : (sealed key nonce aad (us.take q)).getD k 0 = bits .xor .u8 (us.getD k 0) (Cc.streamAt key 1 nonce k) := by
  have hl : (us.take q).length = q := by rw [List.length_take]; omega
  have e : (us.take q).getD k 0 = us.getD k 0 := by simp [List.getD_eq_getElem?_getD, hk]
  rw [sealed, ← e, ← Cc.xors_get key nonce 1 (us.take q) (by omega), List.getD_eq_getElem?_getD, List.getElem?_append_left (by rw [Cc.xors_length]; omega), ← List.getD_eq_getElem?_getD]
theorem unlike_at (key nonce aad : List Int) {us vs : List Int} {q k : Nat} (hk : k < q) (hq : q ≤ us.length) (hq' : q ≤ vs.length) (ha : Bs us) (hb : Bs vs) :
    bits .xor .u8 ((sealed key nonce aad (us.take q)).getD k 0) ((sealed key nonce aad (vs.take q)).getD k 0) = bits .xor .u8 (us.getD k 0) (vs.getD k 0) := by
  rw [sealed_at key nonce aad hk hq, sealed_at key nonce aad hk hq']
  exact xor_three (ha.at_ k) (hb.at_ k) (Cc.stream_bound _ _ _ _)
set_option maxRecDepth 100000 in
set_option maxHeartbeats 8000000 in
theorem start (key nonce : List Int) (A : Option Addr) (n c : Nat) (xs : List Int) (A2 : Option Addr) (na ca : Nat) (us : List Int) (A3 : Option Addr) (nb cb : Nat) (vs : List Int) (w : World) (hL : Laid w.heap.size w) (hk : key.length = 32) (hkb : Bs key) (hnl : nonce.length = 12) (hnb : Bs nonce)
    (h : Arg w w.heap.size A n c xs) (h2 : Arg w w.heap.size A2 na ca us) (h3 : Arg w w.heap.size A3 nb cb vs) :
    Calls Tryd.prog 7 #[.agg (arr .u8 key), .agg (arr .u8 nonce), .slice A n c, .slice A2 na ca, .slice A3 nb cb] w fun e w' => e = .returned (.bool true) ∧ Below w.heap.size w w' := by
  have HK := Lib.hid hk
  have HN := Lib.hid hnl
  clear hk hnl
  obtain ⟨q, hq⟩ : ∃ q, min na nb = q := ⟨_, rfl⟩
  have hmin : (if (nb : Int) < (na : Int) then (nb : Int) else (na : Int)) = (q : Int) := by split <;> omega
  have HMIN := Lib.hid hmin
  have hqa : q ≤ na := by omega
  have hqb : q ≤ nb := by omega
  clear hq hmin
  by_cases hbig : 1000 < q ∨ 300 < n
  · by_cases h1 : 1000 < q
    · have q1 : (1000 : Int) < (q : Int) := by omega
      go_enter Tryd.func7, Tryd.ntmps7
      go_wp2_with (first
        | (refine wpList_box_Row (w := w) rfl 22 _ rfl .u8 key rfl (bs_wf hkb) ?_; intro w1 r1 g1 z1)
        | (refine wpList_box_Row (w := w1) rfl 23 _ rfl .u8 nonce rfl (bs_wf hnb) ?_; intro w2 r2 g2 z2)
        | (refine wpList_min rfl _ _ _ rfl .i64 (na : Int) (nb : Int) (q : Int) rfl rfl HMIN.out ?_))
      have b2 : Below w.heap.size w w2 := ((Below.refl _ w).grown g1 (Nat.le_refl _) (by simp)).grown g2 g1.size (by simp)
      refine (awake7_b w.heap.size w2 (hL.below b2) b2.size).mono ?_
      rintro e w' ⟨rfl, hb⟩
      go_wp2_with fail
      go_ret
      exact ⟨rfl, b2.trans (hb.mono b2.size)⟩
    · have q1 : ¬ (1000 : Int) < (q : Int) := by omega
      have q2 : (300 : Int) < (n : Int) := by omega
      go_enter Tryd.func7, Tryd.ntmps7
      go_wp2_with (first
        | (refine wpList_box_Row (w := w) rfl 22 _ rfl .u8 key rfl (bs_wf hkb) ?_; intro w1 r1 g1 z1)
        | (refine wpList_box_Row (w := w1) rfl 23 _ rfl .u8 nonce rfl (bs_wf hnb) ?_; intro w2 r2 g2 z2)
        | (refine wpList_min rfl _ _ _ rfl .i64 (na : Int) (nb : Int) (q : Int) rfl rfl HMIN.out ?_))
      have b2 : Below w.heap.size w w2 := ((Below.refl _ w).grown g1 (Nat.le_refl _) (by simp)).grown g2 g1.size (by simp)
      refine (awake7_b w.heap.size w2 (hL.below b2) b2.size).mono ?_
      rintro e w' ⟨rfl, hb⟩
      go_wp2_with fail
      go_ret
      exact ⟨rfl, b2.trans (hb.mono b2.size)⟩
  have hq1 : q ≤ 1000 := by omega
  have hn : n ≤ 300 := by omega
  have q1 : ¬ (1000 : Int) < (q : Int) := by omega
  have q2 : ¬ (300 : Int) < (n : Int) := by omega
  have ha := h2.front hqa
  have hb := h3.front hqb
  have hla := Lib.hid ha.len
  have hlb := Lib.hid hb.len
  have hsa := fun W : World => run_front (P := Tryd.prog) (n := na) (cap := ca) (h := q) Tryd.underlying24 size_1b h2.2.2.1 (Nat.le_trans hqa h2.2.2.2.1) W
  have hsb := fun W : World => run_front (P := Tryd.prog) (n := nb) (cap := cb) (h := q) Tryd.underlying24 size_1b h3.2.2.1 (Nat.le_trans hqb h3.2.2.2.1) W
  have HU := Lib.hid (fun k (hk : k < q) => unlike_at key nonce xs (us := us) (vs := vs) hk (by rw [h2.len]; exact hqa) (by rw [h3.len]; exact hqb) h2.bytes h3.bytes)
  clear hbig
  go_enter Tryd.func7, Tryd.ntmps7
  go_wp2_with (first
    | (refine wpList_box_Row (w := w) rfl 22 _ rfl .u8 key rfl (bs_wf hkb) ?_; intro w1 r1 g1 z1)
    | (refine wpList_box_Row (w := w1) rfl 23 _ rfl .u8 nonce rfl (bs_wf hnb) ?_; intro wb r2 g2 z2; have r12 := r1.grown g2 (by simp))
    | (refine wpList_min rfl _ _ _ rfl .i64 (na : Int) (nb : Int) (q : Int) rfl rfl HMIN.out ?_))
  obtain ⟨gn, hgn⟩ : ∃ g, w1.heap.size = g := ⟨_, rfl⟩
  have bb : Below w.heap.size w wb := ((Below.refl _ w).grown g1 (Nat.le_refl _) (by simp)).grown g2 g1.size (by simp)
  rw [hgn] at r2 ⊢
  clear hgn r1 g1 g2 z1 z2 w1
  refine wp_region_held (S := fun W => Below wb.heap.size wb W) (by kernel_rfl) ?_
  change wpAnyH _ _ _ _ _ _ _ _ wb.drew
  have c0_0 := (Below.refl wb.heap.size wb).drew
  refine Held.take (v := .agg (arr .u8 key)) 0 (some 31) rfl rfl (by kernel_rfl) (by kernel_rfl) (by kernel_rfl) (fun _ _ _ h => h) rfl (Held.y_load_Row (zs := key) rfl rfl Tryd.underlying22 size_32b HK.out (fun W hW => Row.below r12 hW r12.lt)) c0_0 ?_
  simp only [Act.put, List.setIfInBounds_toArray, List.set_cons_zero, List.set_cons_succ]
  refine Held.take (v := .agg (arr .u8 nonce)) 1 (some 32) rfl rfl (by kernel_rfl) (by kernel_rfl) (by kernel_rfl) (fun _ _ _ h => h) rfl (Held.y_load_Row (zs := nonce) rfl rfl Tryd.underlying23 size_12b HN.out (fun W hW => Row.below r2 hW r2.lt)) c0_0 ?_
  simp only [Act.put, List.setIfInBounds_toArray, List.set_cons_zero, List.set_cons_succ]
  refine Held.take (v := .slice A n c) 2 (some 33) rfl rfl (by kernel_rfl) (by kernel_rfl) (by kernel_rfl) (fun _ _ _ h => h) rfl (Held.y_move rfl rfl) c0_0 ?_
  simp only [Act.put, List.setIfInBounds_toArray, List.set_cons_zero, List.set_cons_succ]
  refine Held.take (v := .slice A2 na ca) 3 (some 34) rfl rfl (by kernel_rfl) (by kernel_rfl) (by kernel_rfl) (fun _ _ _ h => h) rfl (Held.y_move rfl rfl) c0_0 ?_
  simp only [Act.put, List.setIfInBounds_toArray, List.set_cons_zero, List.set_cons_succ]
  refine Held.take (v := .int .i64 (q : Int)) 4 (some 35) rfl rfl (by kernel_rfl) (by kernel_rfl) (by kernel_rfl) (fun _ _ _ h => h) rfl (Held.y_move rfl rfl) c0_0 ?_
  simp only [Act.put, List.setIfInBounds_toArray, List.set_cons_zero, List.set_cons_succ]
  refine Held.take (v := .slice A2 q ca) 5 (some 36) rfl rfl (by kernel_rfl) (by kernel_rfl) (by kernel_rfl) (fun _ _ _ h => h) rfl (Held.y_slice rfl hsa) c0_0 ?_
  simp only [Act.put, List.setIfInBounds_toArray, List.set_cons_zero, List.set_cons_succ]
  refine Held.one 6 (by kernel_rfl) ?_
  refine Held.op_call 6 (some 37) 12 #[.agg (arr .u8 key), .agg (arr .u8 nonce), .slice A n c, .slice A2 q ca] rfl rfl rfl rfl (enters_of Tryd.func12 (by kernel_rfl) rfl) (by simp [Act.eval])
    (seal_any key nonce w.heap.size w.heap.size A n c xs w.heap.size A2 q ca _ wb.drew (hL.below (bb.trans (c0_0.mono bb.size))) (bb.trans (c0_0.mono bb.size)).size HK.out hkb HN.out hnb (h.below (bb.trans (c0_0.mono bb.size))) (by omega) (ha.below (bb.trans (c0_0.mono bb.size))) (by omega)) ?_
  rintro e w1 ⟨A6, m6, c6, rfl, HM6, o6, b1⟩
  have c0_1 := c0_0.trans (b1.mono c0_0.size)
  have hm6 : m6 = q + 16 := by rw [← HM6.out, sealed_length, hla.out]
  subst hm6
  refine ⟨_, rfl, c0_1, ?_⟩
  simp only [Act.put, List.setIfInBounds_toArray, List.set_cons_zero, List.set_cons_succ]
  refine Held.take (v := .tuple #[.slice A6 (q + 16) c6, .int .i64 0]) 7 (some 30) rfl rfl (by kernel_rfl) (by kernel_rfl) (by kernel_rfl) (fun _ _ _ h => h) rfl (Held.y_move rfl rfl) c0_1 ?_
  simp only [Act.put, List.setIfInBounds_toArray, List.set_cons_zero, List.set_cons_succ]
  refine Held.take (v := .slice A6 (q + 16) c6) 8 (some 38) rfl rfl (by kernel_rfl) (by kernel_rfl) (by kernel_rfl) (fun _ _ _ h => h) rfl (y_extract rfl rfl rfl) c0_1 ?_
  simp only [Act.put, List.setIfInBounds_toArray, List.set_cons_zero, List.set_cons_succ]
  refine Held.take (v := .int .i64 0) 9 (some 39) rfl rfl (by kernel_rfl) (by kernel_rfl) (by kernel_rfl) (fun _ _ _ h => h) rfl (y_extract rfl rfl rfl) c0_1 ?_
  simp only [Act.put, List.setIfInBounds_toArray, List.set_cons_zero, List.set_cons_succ]
  refine Held.take (v := .slice A6 (q + 16) c6) 10 (some 12) rfl rfl (by kernel_rfl) (by kernel_rfl) (by kernel_rfl) (fun _ _ _ h => h) rfl (Held.y_assign rfl rfl) c0_1 ?_
  simp only [Act.put, List.setIfInBounds_toArray, List.set_cons_zero, List.set_cons_succ]
  refine Held.take (v := .int .i64 0) 11 (some 13) rfl rfl (by kernel_rfl) (by kernel_rfl) (by kernel_rfl) (fun _ _ _ h => h) rfl (Held.y_assign rfl rfl) c0_1 ?_
  simp only [Act.put, List.setIfInBounds_toArray, List.set_cons_zero, List.set_cons_succ]
  refine wpAnyH_done (by kernel_rfl) ?_ _
  have bc := bb.trans (c0_1.mono bb.size)
  have k5 := r12.below c0_1 r12.lt
  have n5 := r2.below c0_1 r2.lt
  have i6 := (arg_of_own o6 HM6.out).ints
  obtain ⟨wc, hwc⟩ : ∃ W : World, w1 = W := ⟨_, rfl⟩
  subst hwc
  clear o6 c0_0 c0_1 b1 r12 r2 bb
  go_wp2_with fail
  refine wp_region_held (S := fun W => Below w1.heap.size w1 W) (by kernel_rfl) ?_
  change wpAnyH _ _ _ _ _ _ _ _ w1.drew
  have c0_0 := (Below.refl w1.heap.size w1).drew
  refine Held.take (v := .agg (arr .u8 key)) 0 (some 41) rfl rfl (by kernel_rfl) (by kernel_rfl) (by kernel_rfl) (fun _ _ _ h => h) rfl (Held.y_load_Row (zs := key) rfl rfl Tryd.underlying22 size_32b HK.out (fun W hW => Row.below k5 hW k5.lt)) c0_0 ?_
  simp only [Act.put, List.setIfInBounds_toArray, List.set_cons_zero, List.set_cons_succ]
  refine Held.take (v := .agg (arr .u8 nonce)) 1 (some 42) rfl rfl (by kernel_rfl) (by kernel_rfl) (by kernel_rfl) (fun _ _ _ h => h) rfl (Held.y_load_Row (zs := nonce) rfl rfl Tryd.underlying23 size_12b HN.out (fun W hW => Row.below n5 hW n5.lt)) c0_0 ?_
  simp only [Act.put, List.setIfInBounds_toArray, List.set_cons_zero, List.set_cons_succ]
  refine Held.take (v := .slice A n c) 2 (some 43) rfl rfl (by kernel_rfl) (by kernel_rfl) (by kernel_rfl) (fun _ _ _ h => h) rfl (Held.y_move rfl rfl) c0_0 ?_
  simp only [Act.put, List.setIfInBounds_toArray, List.set_cons_zero, List.set_cons_succ]
  refine Held.take (v := .slice A3 nb cb) 3 (some 44) rfl rfl (by kernel_rfl) (by kernel_rfl) (by kernel_rfl) (fun _ _ _ h => h) rfl (Held.y_move rfl rfl) c0_0 ?_
  simp only [Act.put, List.setIfInBounds_toArray, List.set_cons_zero, List.set_cons_succ]
  refine Held.take (v := .int .i64 (q : Int)) 4 (some 45) rfl rfl (by kernel_rfl) (by kernel_rfl) (by kernel_rfl) (fun _ _ _ h => h) rfl (Held.y_move rfl rfl) c0_0 ?_
  simp only [Act.put, List.setIfInBounds_toArray, List.set_cons_zero, List.set_cons_succ]
  refine Held.take (v := .slice A3 q cb) 5 (some 46) rfl rfl (by kernel_rfl) (by kernel_rfl) (by kernel_rfl) (fun _ _ _ h => h) rfl (Held.y_slice rfl hsb) c0_0 ?_
  simp only [Act.put, List.setIfInBounds_toArray, List.set_cons_zero, List.set_cons_succ]
  refine Held.one 6 (by kernel_rfl) ?_
  refine Held.op_call 6 (some 47) 12 #[.agg (arr .u8 key), .agg (arr .u8 nonce), .slice A n c, .slice A3 q cb] rfl rfl rfl rfl (enters_of Tryd.func12 (by kernel_rfl) rfl) (by simp [Act.eval])
    (seal_any key nonce w.heap.size w.heap.size A n c xs w.heap.size A3 q cb _ w1.drew (hL.below (bc.trans (c0_0.mono bc.size))) (bc.trans (c0_0.mono bc.size)).size HK.out hkb HN.out hnb (h.below (bc.trans (c0_0.mono bc.size))) (by omega) (hb.below (bc.trans (c0_0.mono bc.size))) (by omega)) ?_
  rintro e w2 ⟨A7, m7, c7, rfl, HM7, o7, b1⟩
  have c0_1 := c0_0.trans (b1.mono c0_0.size)
  have hm7 : m7 = q + 16 := by rw [← HM7.out, sealed_length, hlb.out]
  subst hm7
  refine ⟨_, rfl, c0_1, ?_⟩
  simp only [Act.put, List.setIfInBounds_toArray, List.set_cons_zero, List.set_cons_succ]
  refine Held.take (v := .tuple #[.slice A7 (q + 16) c7, .int .i64 0]) 7 (some 40) rfl rfl (by kernel_rfl) (by kernel_rfl) (by kernel_rfl) (fun _ _ _ h => h) rfl (Held.y_move rfl rfl) c0_1 ?_
  simp only [Act.put, List.setIfInBounds_toArray, List.set_cons_zero, List.set_cons_succ]
  refine Held.take (v := .slice A7 (q + 16) c7) 8 (some 48) rfl rfl (by kernel_rfl) (by kernel_rfl) (by kernel_rfl) (fun _ _ _ h => h) rfl (y_extract rfl rfl rfl) c0_1 ?_
  simp only [Act.put, List.setIfInBounds_toArray, List.set_cons_zero, List.set_cons_succ]
  refine Held.take (v := .int .i64 0) 9 (some 49) rfl rfl (by kernel_rfl) (by kernel_rfl) (by kernel_rfl) (fun _ _ _ h => h) rfl (y_extract rfl rfl rfl) c0_1 ?_
  simp only [Act.put, List.setIfInBounds_toArray, List.set_cons_zero, List.set_cons_succ]
  refine Held.take (v := .slice A7 (q + 16) c7) 10 (some 14) rfl rfl (by kernel_rfl) (by kernel_rfl) (by kernel_rfl) (fun _ _ _ h => h) rfl (Held.y_assign rfl rfl) c0_1 ?_
  simp only [Act.put, List.setIfInBounds_toArray, List.set_cons_zero, List.set_cons_succ]
  refine Held.take (v := .int .i64 0) 11 (some 15) rfl rfl (by kernel_rfl) (by kernel_rfl) (by kernel_rfl) (fun _ _ _ h => h) rfl (Held.y_assign rfl rfl) c0_1 ?_
  simp only [Act.put, List.setIfInBounds_toArray, List.set_cons_zero, List.set_cons_succ]
  refine wpAnyH_done (by kernel_rfl) ?_ _
  have bd := bc.trans (c0_1.mono bc.size)
  have i7 := (arg_of_own o7 HM7.out).ints
  have i6 := (i6.below c0_1).more c0_1.size
  clear o7 c0_0 c0_1 b1 k5 n5 bc
  go_wp2_with fail
  refine (awake7_b w.heap.size w2 (hL.below bd) bd.size).mono ?_
  rintro e we ⟨rfl, hbe⟩
  have be := bd.trans (hbe.mono bd.size)
  have i7 := (i7.below hbe).more hbe.size
  have i6 := (i6.below hbe).more hbe.size
  have ia := (h2.below be).ints
  have ib := (h3.below be).ints
  have hse := be.size
  clear hbe bd h2 h3 ha hb
  obtain ⟨s6, hs6⟩ : ∃ s, sealed key nonce xs (us.take q) = s := ⟨_, rfl⟩
  obtain ⟨s7, hs7⟩ : ∃ s, sealed key nonce xs (vs.take q) = s := ⟨_, rfl⟩
  rw [hs6] at i6 HU
  rw [hs7] at i7 HU
  clear hs6 hs7 HM6 HM7
  go_wp2_with fail
  go_loopw [16] (fun i wr => ∃ k : Nat, k ≤ q ∧ i = .int .i64 k ∧ Below we.heap.size we wr) (fun i _ => q - (intOf i).toNat)
  case atStart => exact ⟨0, by omega, rfl, Below.refl _ _⟩
  case round =>
    obtain ⟨k, hk, rfl, hbl⟩ := hrel
    have hk0 : (0 : Int) ≤ (k : Int) := by omega
    by_cases hlt : k < q
    · have hlt' : (k : Int) < (q : Int) := by omega
      obtain ⟨p1, f1, rfl, hp1, hc1⟩ := i6.at_ (i := k) (by omega)
      obtain ⟨p2, f2, rfl, hp2, hc2⟩ := i7.at_ (i := k) (by omega)
      obtain ⟨p3, f3, rfl, hp3, hc3⟩ := ia.at_ (i := k) (by omega)
      obtain ⟨p4, f4, rfl, hp4, hc4⟩ := ib.at_ (i := k) (by omega)
      have hxu := HU.out k hlt
      have hk16 : k < q + 16 := by omega
      have hka : k < na := by omega
      have hkb' : k < nb := by omega
      have hc1 := (hbl.cell (p := ⟨p1, f1 + k, none⟩) hp1).trans hc1
      have hc2 := (hbl.cell (p := ⟨p2, f2 + k, none⟩) hp2).trans hc2
      have hc3 := (hbl.cell (p := ⟨p3, f3 + k, none⟩) (by show p3 < _; omega)).trans hc3
      have hc4 := (hbl.cell (p := ⟨p4, f4 + k, none⟩) (by show p4 < _; omega)).trans hc4
      generalize s6.getD k 0 = x1 at hc1 hxu
      generalize s7.getD k 0 = x2 at hc2 hxu
      generalize us.getD k 0 = x3 at hc3 hxu
      generalize vs.getD k 0 = x4 at hc4 hxu
      obtain ⟨r, hr⟩ : ∃ r, bits .xor .u8 x3 x4 = r := ⟨_, rfl⟩
      rw [hr] at hxu
      have HXU := Lib.hid hxu
      have HR := Lib.hid hr
      clear hxu hr i6 i7 ia ib
      go_wp2_with fail
      refine wp_region_held (S := fun W => Below wr.heap.size wr W) (by kernel_rfl) ?_
      change wpAnyH _ _ _ _ _ _ _ _ wr.drew
      have c0_0 := (Below.refl wr.heap.size wr).drew
      refine Held.take (v := .slice (some ⟨p1, f1, none⟩) (q + 16) c6) 0 (some 79) rfl rfl (by kernel_rfl) (by kernel_rfl) (by kernel_rfl) (fun _ _ _ h => h) rfl (Held.y_move rfl rfl) c0_0 ?_
      simp only [Act.put, List.setIfInBounds_toArray, List.set_cons_zero, List.set_cons_succ]
      refine Held.take (v := .int .i64 (k : Int)) 1 (some 80) rfl rfl (by kernel_rfl) (by kernel_rfl) (by kernel_rfl) (fun _ _ _ h => h) rfl (Held.y_move rfl rfl) c0_0 ?_
      simp only [Act.put, List.setIfInBounds_toArray, List.set_cons_zero, List.set_cons_succ]
      refine Held.take (v := .pointer (some ⟨p1, f1 + k, none⟩)) 2 (some 81) rfl rfl (by kernel_rfl) (by kernel_rfl) (by kernel_rfl) (fun _ _ _ h => h) rfl (Held.y_addr rfl rfl rfl (fun X => Held.run_addr_slice 24 5 p1 f1 (q + 16) c6 k .i64 Tryd.underlying24 (by kernel_rfl) hk16 X)) c0_0 ?_
      simp only [Act.put, List.setIfInBounds_toArray, List.set_cons_zero, List.set_cons_succ]
      refine Held.take (v := .int .u8 x1) 3 (some 82) rfl rfl (by kernel_rfl) (by kernel_rfl) (by kernel_rfl) (fun _ _ _ h => h) rfl (Held.y_load rfl rfl (by kernel_rfl) (fun X h => (h.cell (World.block_lt_of_cell? _ _ hc1)).trans hc1)) c0_0 ?_
      simp only [Act.put, List.setIfInBounds_toArray, List.set_cons_zero, List.set_cons_succ]
      refine Held.take (v := .slice (some ⟨p2, f2, none⟩) (q + 16) c7) 4 (some 83) rfl rfl (by kernel_rfl) (by kernel_rfl) (by kernel_rfl) (fun _ _ _ h => h) rfl (Held.y_move rfl rfl) c0_0 ?_
      simp only [Act.put, List.setIfInBounds_toArray, List.set_cons_zero, List.set_cons_succ]
      refine Held.take (v := .int .i64 (k : Int)) 5 (some 84) rfl rfl (by kernel_rfl) (by kernel_rfl) (by kernel_rfl) (fun _ _ _ h => h) rfl (Held.y_move rfl rfl) c0_0 ?_
      simp only [Act.put, List.setIfInBounds_toArray, List.set_cons_zero, List.set_cons_succ]
      refine Held.take (v := .pointer (some ⟨p2, f2 + k, none⟩)) 6 (some 85) rfl rfl (by kernel_rfl) (by kernel_rfl) (by kernel_rfl) (fun _ _ _ h => h) rfl (Held.y_addr rfl rfl rfl (fun X => Held.run_addr_slice 24 5 p2 f2 (q + 16) c7 k .i64 Tryd.underlying24 (by kernel_rfl) hk16 X)) c0_0 ?_
      simp only [Act.put, List.setIfInBounds_toArray, List.set_cons_zero, List.set_cons_succ]
      refine Held.take (v := .int .u8 x2) 7 (some 86) rfl rfl (by kernel_rfl) (by kernel_rfl) (by kernel_rfl) (fun _ _ _ h => h) rfl (Held.y_load rfl rfl (by kernel_rfl) (fun X h => (h.cell (World.block_lt_of_cell? _ _ hc2)).trans hc2)) c0_0 ?_
      simp only [Act.put, List.setIfInBounds_toArray, List.set_cons_zero, List.set_cons_succ]
      refine Held.take (v := .int .u8 r) 8 (some 87) rfl rfl (by kernel_rfl) (by kernel_rfl) (by kernel_rfl) (fun _ _ _ h => h) rfl (Held.y_int rfl rfl rfl (fun X => Held.run_bitop (.inl rfl) _ _ HXU.out X)) c0_0 ?_
      simp only [Act.put, List.setIfInBounds_toArray, List.set_cons_zero, List.set_cons_succ]
      refine Held.take (v := .slice (some ⟨p3, f3, none⟩) na ca) 9 (some 88) rfl rfl (by kernel_rfl) (by kernel_rfl) (by kernel_rfl) (fun _ _ _ h => h) rfl (Held.y_move rfl rfl) c0_0 ?_
      simp only [Act.put, List.setIfInBounds_toArray, List.set_cons_zero, List.set_cons_succ]
      refine Held.take (v := .int .i64 (k : Int)) 10 (some 89) rfl rfl (by kernel_rfl) (by kernel_rfl) (by kernel_rfl) (fun _ _ _ h => h) rfl (Held.y_move rfl rfl) c0_0 ?_
      simp only [Act.put, List.setIfInBounds_toArray, List.set_cons_zero, List.set_cons_succ]
      refine Held.take (v := .pointer (some ⟨p3, f3 + k, none⟩)) 11 (some 90) rfl rfl (by kernel_rfl) (by kernel_rfl) (by kernel_rfl) (fun _ _ _ h => h) rfl (Held.y_addr rfl rfl rfl (fun X => Held.run_addr_slice 24 5 p3 f3 na ca k .i64 Tryd.underlying24 (by kernel_rfl) hka X)) c0_0 ?_
      simp only [Act.put, List.setIfInBounds_toArray, List.set_cons_zero, List.set_cons_succ]
      refine Held.take (v := .int .u8 x3) 12 (some 91) rfl rfl (by kernel_rfl) (by kernel_rfl) (by kernel_rfl) (fun _ _ _ h => h) rfl (Held.y_load rfl rfl (by kernel_rfl) (fun X h => (h.cell (World.block_lt_of_cell? _ _ hc3)).trans hc3)) c0_0 ?_
      simp only [Act.put, List.setIfInBounds_toArray, List.set_cons_zero, List.set_cons_succ]
      refine Held.take (v := .slice (some ⟨p4, f4, none⟩) nb cb) 13 (some 92) rfl rfl (by kernel_rfl) (by kernel_rfl) (by kernel_rfl) (fun _ _ _ h => h) rfl (Held.y_move rfl rfl) c0_0 ?_
      simp only [Act.put, List.setIfInBounds_toArray, List.set_cons_zero, List.set_cons_succ]
      refine Held.take (v := .int .i64 (k : Int)) 14 (some 93) rfl rfl (by kernel_rfl) (by kernel_rfl) (by kernel_rfl) (fun _ _ _ h => h) rfl (Held.y_move rfl rfl) c0_0 ?_
      simp only [Act.put, List.setIfInBounds_toArray, List.set_cons_zero, List.set_cons_succ]
      refine Held.take (v := .pointer (some ⟨p4, f4 + k, none⟩)) 15 (some 94) rfl rfl (by kernel_rfl) (by kernel_rfl) (by kernel_rfl) (fun _ _ _ h => h) rfl (Held.y_addr rfl rfl rfl (fun X => Held.run_addr_slice 24 5 p4 f4 nb cb k .i64 Tryd.underlying24 (by kernel_rfl) hkb' X)) c0_0 ?_
      simp only [Act.put, List.setIfInBounds_toArray, List.set_cons_zero, List.set_cons_succ]
      refine Held.take (v := .int .u8 x4) 16 (some 95) rfl rfl (by kernel_rfl) (by kernel_rfl) (by kernel_rfl) (fun _ _ _ h => h) rfl (Held.y_load rfl rfl (by kernel_rfl) (fun X h => (h.cell (World.block_lt_of_cell? _ _ hc4)).trans hc4)) c0_0 ?_
      simp only [Act.put, List.setIfInBounds_toArray, List.set_cons_zero, List.set_cons_succ]
      refine Held.take (v := .int .u8 r) 17 (some 96) rfl rfl (by kernel_rfl) (by kernel_rfl) (by kernel_rfl) (fun _ _ _ h => h) rfl (Held.y_int rfl rfl rfl (fun X => Held.run_bitop (.inl rfl) _ _ HR.out X)) c0_0 ?_
      simp only [Act.put, List.setIfInBounds_toArray, List.set_cons_zero, List.set_cons_succ]
      refine Held.take (v := .bool false) 18 (some 97) rfl rfl (by kernel_rfl) (by kernel_rfl) (by kernel_rfl) (fun _ _ _ h => h) rfl (Held.y_nei rfl rfl rfl) c0_0 ?_
      simp only [Act.put, List.setIfInBounds_toArray, List.set_cons_zero, List.set_cons_succ]
      refine wpAnyH_done (by kernel_rfl) ?_ _
      go_wp2_with fail
      go_roundw
      case rel => exact ⟨k + 1, by omega, by go_num, hbl.drew⟩
      case measure => simp [intOf]; omega
    · have hkq : k = q := by omega
      subst hkq
      go_wp2_with fail
      go_ret
      exact ⟨rfl, be.trans (hbl.mono be.size)⟩

theorem walk (z0 : List Int) (z1 : List Int) (a2 : Option Addr) (len2 cap2 : Nat) (z2 : List Int) (a3 : Option Addr) (len3 cap3 : Nat) (z3 : List Int) (a4 : Option Addr) (len4 cap4 : Nat) (z4 : List Int) (w : World) (zl0 : z0.length = 32) (zw0 : ∀ z ∈ z0, (Lit.int .u8 z).wf = true) (zl1 : z1.length = 12) (zw1 : ∀ z ∈ z1, (Lit.int .u8 z).wf = true) (w2 : IsRow .u8 w a2 len2 cap2 z2) (w3 : IsRow .u8 w a3 len3 cap3 z3) (w4 : IsRow .u8 w a4 len4 cap4 z4) (hL : laidMetH Tryd.prog laidList w) :
    Calls Tryd.prog 7 #[.agg (Mem.arr .u8 z0), .agg (Mem.arr .u8 z1), .slice a2 len2 cap2, .slice a3 len3 cap3, .slice a4 len4 cap4] w fun e w' => e = .returned (.bool true) ∧ Below w.heap.size w w' := by
  exact start z0 z1 a2 len2 cap2 _ a3 len3 cap3 _ a4 len4 cap4 _ w (laid_of hL) zl0 (Ae.bs_of_wf zw0) zl1 (Ae.bs_of_wf zw1) (arg_of_row w2) (arg_of_row w3) (arg_of_row w4)

set_option maxRecDepth 100000 in
theorem door_met (os : Os) (args : Array Value) : laidMetH Tryd.prog laidList ((World.doorLaid Tryd.prog 400 os).forCall (fun _ _ => 0) ⟨#[], args, []⟩).memory :=
  laidMetH_of_parts3 (fuel := 8) (laidMet_of_run' 8 (by kernel_rfl) (by kernel_rfl)) (by kernel_rfl) (by kernel_rfl)

set_option maxRecDepth 100000 in
theorem lifted (os : Os) (started : os.Started) (H : Type) (enc : TypeId × Value → H) :
    ReturnsInHanded {} Tryd.checked os 7 .any (fun w args => (Rows.aeadStreamSpec.pre enc Tryd.prog Tryd.f7 [] false w args ∧ laidMetH Tryd.prog laidList w) ∧ sizedMet enc Tryd.prog Tryd.f7 (OpenSpec.ofChange Rows.aeadStreamSpec) false w args)
      (Rows.aeadStreamSpec.post enc Tryd.prog Tryd.f7 false true false false) := by
  refine returnsInHanded_of_change_and (C := Tryd.checked) (X := fun w _ => laidMetH Tryd.prog laidList w) (fun _ _ _ hh h => h.of_heap hh) own started (by kernel_rfl) Tryd.func7
    (ChangeSpec.witness_shaped (enc := enc) (C := Tryd.checked) (os := os) (X := fun w _ => laidMetH Tryd.prog laidList w) false (World.doorLaid Tryd.prog 400 os) #[.agg (Array.replicate 32 (.int .u8 0)), .agg (Array.replicate 12 (.int .u8 0)), .slice none 0 0, .slice none 0 0, .slice none 0 0] 8 rfl (World.shaped_of_RefB (by kernel_rfl) (by kernel_rfl)) (by kernel_rfl) (by kernel_rfl) (by kernel_rfl) (door_met os _)) ?_
  intro W base args ds gs before hval0 hW _ _ hL _
  have hval : ∀ (j : Nat) t v, Tryd.f7.params[j]? = some t → args[j]? = some v → Value.okWide Tryd.prog W .any base t v := hval0
  have hW' := hW
  obtain ⟨p, q, hA0, hV, rfl, hfz, hnd⟩ := hW
  have hA : DataW.TrodAll enc Tryd.prog W 0 (fun _ => true) true Tryd.f7.params.toList args.toList ds p := hA0
  rw [Tryd.params7] at hA hval
  obtain ⟨v0, vs0, d0, ds0, p0, q0, hargs, rfl, rfl, h0, r0⟩ := trodAll_cons hA
  obtain ⟨v1, vs1, d1, ds1, p1, q1, rfl, rfl, rfl, h1, r1⟩ := trodAll_cons r0
  obtain ⟨v2, vs2, d2, ds2, p2, q2, rfl, rfl, rfl, h2, r2⟩ := trodAll_cons r1
  obtain ⟨v3, vs3, d3, ds3, p3, q3, rfl, rfl, rfl, h3, r3⟩ := trodAll_cons r2
  obtain ⟨v4, vs4, d4, ds4, p4, q4, rfl, rfl, rfl, h4, r4⟩ := trodAll_cons r3
  obtain ⟨rfl, rfl, rfl⟩ := trodAll_nil r4
  obtain rfl : args = #[v0, v1, v2, v3, v4] := by cases args; simp_all
  obtain ⟨rfl, rfl⟩ := trodVars_none hV
  have k0 := h0
  have lt0 : ∀ x ∈ p0, x.block < W.heap.size := by obtain ⟨m, hm⟩ := k0; exact DataW.trod_lt m _ _ _ hm
  obtain ⟨z0, rfl, zl0, zw0⟩ := Mem.open_arr Tryd.underlying22 Tryd.underlying5 (by kernel_rfl) (by kernel_rfl) (hval 0 22 v0 rfl rfl) h0
  have k1 := h1
  have lt1 : ∀ x ∈ p1, x.block < W.heap.size := by obtain ⟨m, hm⟩ := k1; exact DataW.trod_lt m _ _ _ hm
  obtain ⟨z1, rfl, zl1, zw1⟩ := Mem.open_arr Tryd.underlying23 Tryd.underlying5 (by kernel_rfl) (by kernel_rfl) (hval 1 23 v1 rfl rfl) h1
  obtain ⟨a2, len2, cap2, rfl⟩ := okWide_slice Tryd.underlying24 (hval 2 24 v2 rfl rfl)
  have k2 := h2
  have lt2 : ∀ x ∈ p2, x.block < W.heap.size := by obtain ⟨m, hm⟩ := k2; exact DataW.trod_lt m _ _ _ hm
  obtain ⟨z2, w2⟩ : ∃ zs, IsRow .u8 W a2 len2 cap2 zs := by
    obtain ⟨fuel, hf⟩ := h2
    rcases open_ints Tryd.underlying24 Tryd.underlying5 (by kernel_rfl) hf with ⟨hcs, _⟩ | ⟨x, l, c, zs, hcs, _, hl, hm, hz, _, hcell, hwz⟩
    · simp [Value.cells] at hcs
      obtain ⟨rfl, rfl, rfl⟩ := hcs
      exact ⟨[], .inl ⟨rfl, rfl, rfl, rfl⟩⟩
    · simp [Value.cells] at hcs
      obtain ⟨rfl, rfl, rfl⟩ := hcs
      exact ⟨zs, .inr ⟨_, rfl, hl, hm, by simpa using hz, hcell, hwz⟩⟩
  obtain ⟨a3, len3, cap3, rfl⟩ := okWide_slice Tryd.underlying24 (hval 3 24 v3 rfl rfl)
  have k3 := h3
  have lt3 : ∀ x ∈ p3, x.block < W.heap.size := by obtain ⟨m, hm⟩ := k3; exact DataW.trod_lt m _ _ _ hm
  obtain ⟨z3, w3⟩ : ∃ zs, IsRow .u8 W a3 len3 cap3 zs := by
    obtain ⟨fuel, hf⟩ := h3
    rcases open_ints Tryd.underlying24 Tryd.underlying5 (by kernel_rfl) hf with ⟨hcs, _⟩ | ⟨x, l, c, zs, hcs, _, hl, hm, hz, _, hcell, hwz⟩
    · simp [Value.cells] at hcs
      obtain ⟨rfl, rfl, rfl⟩ := hcs
      exact ⟨[], .inl ⟨rfl, rfl, rfl, rfl⟩⟩
    · simp [Value.cells] at hcs
      obtain ⟨rfl, rfl, rfl⟩ := hcs
      exact ⟨zs, .inr ⟨_, rfl, hl, hm, by simpa using hz, hcell, hwz⟩⟩
  obtain ⟨a4, len4, cap4, rfl⟩ := okWide_slice Tryd.underlying24 (hval 4 24 v4 rfl rfl)
  have k4 := h4
  have lt4 : ∀ x ∈ p4, x.block < W.heap.size := by obtain ⟨m, hm⟩ := k4; exact DataW.trod_lt m _ _ _ hm
  obtain ⟨z4, w4⟩ : ∃ zs, IsRow .u8 W a4 len4 cap4 zs := by
    obtain ⟨fuel, hf⟩ := h4
    rcases open_ints Tryd.underlying24 Tryd.underlying5 (by kernel_rfl) hf with ⟨hcs, _⟩ | ⟨x, l, c, zs, hcs, _, hl, hm, hz, _, hcell, hwz⟩
    · simp [Value.cells] at hcs
      obtain ⟨rfl, rfl, rfl⟩ := hcs
      exact ⟨[], .inl ⟨rfl, rfl, rfl, rfl⟩⟩
    · simp [Value.cells] at hcs
      obtain ⟨rfl, rfl, rfl⟩ := hcs
      exact ⟨zs, .inr ⟨_, rfl, hl, hm, by simpa using hz, hcell, hwz⟩⟩
  clear hA0 hval0
  refine (walk z0 z1 a2 len2 cap2 z2 a3 len3 cap3 z3 a4 len4 cap4 z4 W zl0 zw0 zl1 zw1 w2 w3 w4 hL).mono fun e W' ⟨he, bel⟩ => ?_
  subst he
  exact ⟨_, rfl, _, _, _, [], _, [], hW', trodAll_mk1 (shut_bool Tryd.underlying4 _), (trodAll_cons_mk (Below.trod laidOut (by kernel_rfl) (of_decide_eq_true (by kernel_rfl)) k0 bel lt0) (trodAll_cons_mk (Below.trod laidOut (by kernel_rfl) (of_decide_eq_true (by kernel_rfl)) k1 bel lt1) (trodAll_cons_mk (Below.trod laidOut (by kernel_rfl) (of_decide_eq_true (by kernel_rfl)) k2 bel lt2) (trodAll_cons_mk (Below.trod laidOut (by kernel_rfl) (of_decide_eq_true (by kernel_rfl)) k3 bel lt3) (trodAll_cons_mk (Below.trod laidOut (by kernel_rfl) (of_decide_eq_true (by kernel_rfl)) k4 bel lt4) trodAll_mk0))))), rfl, bel.frame _, fun h => by cases h⟩

theorem over : Rows.aeadStreamRow.holds Tryd.pinned (OpenSpec.ofChange Rows.aeadStreamSpec) :=
  OpenClaim.holds_of_wide 7 Tryd.f7 rfl rfl rfl rfl rfl rfl rfl ⟨rfl, rfl, rfl, rfl, rfl⟩ rfl rfl rfl rfl rfl (by kernel_rfl) Tryd.func7 (by kernel_rfl)
    (of_decide_eq_true (by kernel_rfl)) (by unfold Func.isWrapper; first | (rw [if_pos (by decide +kernel)]; kernel_rfl) | (rw [if_neg (by decide +kernel)]; exact ⟨rfl, rfl⟩))
    (fun os started H enc _ => lifted os started H enc)

/-- the statement -/
theorem proved : Rows.AeadStreamCardSaid :=
  Claim7.holds_tied_plain_at .later [] [.widerDeep, .data] true (true, "4b84c088017a6d4a2915d281b40e8f4247fc655ca7215a1524322a39d49a7d87") false
    over (fun _ h => by cases h) (by kernel_rfl) (fun _ h => by cases h) aeadStream_row_tie rfl ⟨rfl, rfl⟩ (by kernel_rfl) rfl
    (fun f fn hf hfn => by
      obtain rfl : f = 7 := Option.some.inj ((show Tryd.prog.funcNamed "domino/dominolaw07.AeadStream" = some 7 by kernel_rfl).symm.trans hf) |>.symm
      obtain rfl : fn = Tryd.f7 := (Option.some.inj (Tryd.func7.symm.trans hfn)).symm
      exact ⟨by kernel_rfl, fun j t ht => by
        rw [Tryd.params7] at ht
        have hm : t ∈ [22, 23, 24, 24, 24] := by simpa using Array.mem_of_getElem? ht
        have hall : ([22, 23, 24, 24, 24].all fun u => !Tryd.prog.wantsStandIn u) = true := by kernel_rfl
        exact (show Tryd.prog.wantsStandIn t = false by simpa using List.all_eq_true.1 hall t hm)⟩)
    (by kernel_rfl)
#print axioms proved
end Go.Proofs.YtebcejncjljmhaaDoor.aeadStream
