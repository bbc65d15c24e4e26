/-
  The functions state, mixed and Block of package chacha by their contracts. Conditions: a key of 32 bytes, a nonce of 12, a counter of 32 bits; the table of package chacha lies where the program's text lays it.
-/
import Derived.Test.YtejgnjnmlojdpaaDoorCh2
import Derived.Test.YtejgnjnmlojdpaaDoorMid
import Derived.Test.YtejgnjnmlojdpaaDoorTab
import Derived.Test.YtejgnjnmlojdpaaDoorCopyR
namespace Go.Proofs.YtejgnjnmlojdpaaDoor.Cha
open Go.RowKit Go.Shelf Go.Proofs.YtejgnjnmlojdpaaDoor.Mem Go.Proofs.YtejgnjnmlojdpaaDoor.Help Go.Proofs.YtejgnjnmlojdpaaDoor.Sum Go.Proofs.YtejgnjnmlojdpaaDoor.Cc Go.Proofs.YtejgnjnmlojdpaaDoor.Sha Go.Proofs.YtejgnjnmlojdpaaDoor
set_option linter.unusedVariables false
attribute [local irreducible] wpList wpListIn

/-- zs is F, up to place m -/
def Upto (F : List Int) (m : Nat) (zs : List Int) : Prop := zs.length = F.length ∧ ∀ i, i < m → zs.getD i 0 = F.getD i 0
theorem Upto.set {F zs : List Int} {m : Nat} (h : Upto F m zs) (hm : m < F.length) : Upto F (m + 1) (zs.set m (F.getD m 0)) := by
  refine ⟨by rw [List.length_set]; exact h.1, fun i hi => ?_⟩
  by_cases e : i = m
  · subst e
    simp [List.getD_eq_getElem?_getD, h.1, hm]
  · rw [← h.2 i (by omega)]
    simp only [List.getD_eq_getElem?_getD, List.getElem?_set]
    rw [if_neg (by omega)]
theorem Upto.eq {F zs : List Int} {m : Nat} (h : Upto F m zs) (hm : F.length ≤ m) : zs = F := list_eq h.1 fun i hi => h.2 i (by have := h.1; omega)
theorem first_key (key : List Int) (ctr : Int) (nonce : List Int) {t : Nat} (ht : t < 8) : (first key ctr nonce).getD (4 + t) 0 = lew key t := by
  simp only [first, List.getD_eq_getElem?_getD]
  rw [List.getElem?_append_right (by simp [sigma]), List.getElem?_append_left (by simp [sigma]; omega)]
  simp [sigma, ht]
theorem first_ctr (key : List Int) (ctr : Int) (nonce : List Int) : (first key ctr nonce).getD 12 0 = ctr := by
  simp only [first, List.getD_eq_getElem?_getD]
  rw [List.getElem?_append_right (by simp [sigma]), List.getElem?_append_right (by simp [sigma])]
  simp [sigma]
theorem first_nonce (key : List Int) (ctr : Int) (nonce : List Int) {t : Nat} (ht : t < 3) : (first key ctr nonce).getD (13 + t) 0 = lew nonce t := by
  simp only [first, List.getD_eq_getElem?_getD]
  rw [List.getElem?_append_right (by simp [sigma]; omega), List.getElem?_append_right (by simp [sigma]; omega)]
  have e : 13 + t - sigma.length - (List.map (lew key) (List.range 8)).length = t + 1 := by simp [sigma]; omega
  rw [e]
  simp [ht]
theorem first_sigma (key : List Int) (ctr : Int) (nonce : List Int) : Upto (first key ctr nonce) 4 (laidOver (List.replicate 16 0) 0 sigma) := by
  refine ⟨by rw [laidOver_length _ _ _ (by simp [sigma]), first_length]; simp, fun i hi => ?_⟩
  rw [laidOver_get _ _ _ (by simp [sigma]), if_pos ⟨by omega, by simpa [sigma] using hi⟩]
  simp only [first, List.getD_eq_getElem?_getD]
  rw [List.getElem?_append_left (by simpa [sigma] using hi)]
  rfl
theorem lew_of (xs : List Int) {l : Nat} (t : Nat) (h : 4 * t + 4 ≤ l) (hl : xs.length = l) : le4 (((xs.drop (4 * t)).take 4).getD 0 0) (((xs.drop (4 * t)).take 4).getD 1 0) (((xs.drop (4 * t)).take 4).getD 2 0) (((xs.drop (4 * t)).take 4).getD 3 0) = lew xs t := by
  have e : ∀ j, j < 4 → ((xs.drop (4 * t)).take 4).getD j 0 = xs.getD (4 * t + j) 0 := fun j hj => by
    simp [List.getD_eq_getElem?_getD, List.getElem?_drop, hj]
  rw [e 0 (by omega), e 1 (by omega), e 2 (by omega), e 3 (by omega)]
  rfl
theorem bs_wf {zs : List Int} (h : Bs zs) : ∀ z ∈ zs, (Lit.int .u8 z).wf = true := fun z hz => wf_byte (h z hz)

/-- a table as a slice of its own block -/
theorem Tab.ints {w : World} {g : Nat} {zs : List Int} (h : Tab w g zs) (hz : ∀ z ∈ zs, (Lit.int .u32 z).wf = true) : Ints w .u32 w.heap.size (some ⟨g, 0, none⟩) zs.length zs :=
  ⟨rfl, hz, fun _ => ⟨g, 0, rfl, h.lt, fun i hi => by rw [Nat.zero_add]; exact h.cell hi⟩⟩
theorem sigma_wf : ∀ z ∈ sigma, (Lit.int .u32 z).wf = true := by decide

set_option maxRecDepth 100000 in
set_option maxHeartbeats 1000000 in
theorem state_any (key nonce : List Int) (ctr : Int) (w : World) (hk : key.length = 32) (hkb : Bs key) (hn : nonce.length = 12) (hnb : Bs nonce) (hc : R32 ctr) (hT : Tab w 0 sigma) :
    Calls Tryd.prog 22 #[.agg (arr .u8 key), .int .u32 ctr, .agg (arr .u8 nonce)] w fun e w' => e = .returned (.agg (arr .u32 (first key ctr nonce))) ∧ Below w.heap.size w w' := by
  have zero_16 : (Tryd.prog.info? 48).bind (·.zero) = some (.agg (arr .u32 (List.replicate 16 0))) := by kernel_rfl
  have HK := Lib.hid hk
  have HN := Lib.hid hn
  clear hk hn
  have FK := Lib.hid (fun t (ht : t < 8) => first_key key ctr nonce ht)
  have FC := Lib.hid (first_ctr key ctr nonce)
  have FN := Lib.hid (fun t (ht : t < 3) => first_nonce key ctr nonce ht)
  have FL := Lib.hid (first_length key ctr nonce)
  have FS := Lib.hid (sixteen_first hkb hnb hc)
  have LK := Lib.hid (fun t (ht : 4 * t + 4 ≤ 32) => lew_of key t ht HK.out)
  have LN := Lib.hid (fun t (ht : 4 * t + 4 ≤ 12) => lew_of nonce t ht HN.out)
  have RK := Lib.hid (fun t => r32_lew hkb t)
  have RN := Lib.hid (fun t => r32_lew hnb t)
  obtain ⟨F, hF⟩ : ∃ F, first key ctr nonce = F := ⟨_, rfl⟩
  have u4 := first_sigma key ctr nonce
  rw [hF] at u4 FC FL FS
  simp only [hF] at FK FN
  have HF := Lib.hid hF
  clear hF
  go_enter Tryd.func22, Tryd.ntmps22
  go_wp2_with (first
    | (refine wpList_box_Row (w := w) rfl 22 _ rfl .u8 key rfl (bs_wf hkb) ?_; intro w1 r1 g1 z1)
    | (refine wpList_box_Row (w := w1) rfl 24 _ rfl .u8 nonce rfl (bs_wf hnb) ?_; intro w2 r2 g2 z2)
    | (refine wpList_alloc_Row (w := w2) rfl 48 rfl .u32 16 zero_16 ?_; intro w3 r3 g3 z3)
    | (refine wpList_alloc_Row (w := w3) rfl 48 rfl .u32 16 zero_16 ?_; intro w4 r4 g4 z4))
  obtain ⟨gn, hgn⟩ : ∃ g, w1.heap.size = g := ⟨_, rfl⟩
  obtain ⟨gr, hgr⟩ : ∃ g, w2.heap.size = g := ⟨_, rfl⟩
  obtain ⟨gs, hgs⟩ : ∃ g, w3.heap.size = g := ⟨_, rfl⟩
  have l1 := r1.lt
  have l2 := r2.lt
  have l3 := r3.lt
  have b4 : Below w.heap.size w w4 := ((((Below.refl _ w).grown g1 (Nat.le_refl _) (by simp)).grown g2 g1.size (by simp)).grown g3 (by omega) (by simp)).grown g4 (by omega) (by simp)
  have k4 := ((r1.grown g2 (by simp)).grown g3 (by simp)).grown g4 (by simp)
  have n4 := (r2.grown g3 (by simp)).grown g4 (by simp)
  have e4 := r3.grown g4 (by simp)
  rw [hgn] at l1 l2 n4
  rw [hgr] at l2 l3 e4
  rw [hgs] at l3 r4
  rw [hgn, hgr, hgs]
  clear hgn hgr hgs r1 r2 r3 g1 g2 g3 g4 z1 z2 z3 z4
  have hT4 := hT.below b4 hT.lt
  have iT := Tab.ints hT4 sigma_wf
  simp only [Act.put, List.setIfInBounds_toArray, List.set_cons_zero, List.set_cons_succ]
  refine wp_region_held (S := fun _ => True) (by kernel_rfl) ?_
  change wpAnyH _ _ _ _ _ _ _ _ w4.drew
  have c0 : True := trivial
  refine Held.take (v := .slice (some ⟨gs, 0, none⟩) 16 16) 0 (some 10) rfl rfl (by kernel_rfl) (by kernel_rfl) (by kernel_rfl) (fun _ _ _ h => h) rfl (Held.y_slice rfl (fun W => run_slice_arr_all (P := Tryd.prog) 48 23 16 gs W Tryd.underlying48 (by kernel_rfl) (by omega))) c0 ?_
  simp only [Act.put, List.setIfInBounds_toArray, List.set_cons_zero, List.set_cons_succ]
  refine Held.take (v := .slice (some ⟨0, 0, none⟩) 4 4) 1 (some 11) rfl rfl (by kernel_rfl) (by kernel_rfl) (by kernel_rfl) (fun _ _ _ h => h) rfl (Held.y_slice rfl (fun W => run_slice_arr_all (P := Tryd.prog) 25 23 4 0 W Tryd.underlying25 (by kernel_rfl) (by omega))) c0 ?_
  simp only [Act.put, List.setIfInBounds_toArray, List.set_cons_zero, List.set_cons_succ]
  refine Held.one 2 (by kernel_rfl) ?_
  refine Held.op_copy_Row 2 (some 12) 55 55 rfl rfl rfl rfl 23 Tryd.underlying55 info_u32 gs 0 16 16 w4.heap.size (some ⟨0, 0, none⟩) 4 4 rfl rfl 48 .u32 _ sigma r4 iT (by simp) ?_
  intro w5 r5 g5'
  have g5 : w4.grownBy w5 (some gs) := ⟨g5'.os, g5'.tape, g5'.output, g5'.size, g5'.block⟩
  clear g5'
  rw [List.take_of_length_le (by simp [sigma])] at r5
  refine ⟨trivial, ?_⟩
  simp only [Act.put, List.setIfInBounds_toArray, List.set_cons_zero, List.set_cons_succ]
  refine wpAnyH_done (by kernel_rfl) ?_ _
  rw [show ((min 4 16 : Nat) : Int) = 4 from rfl]
  have b5 : Below w.heap.size w w5 := b4.grown g5 b4.size (fun r e => by cases e; omega)
  have k5 := k4.grown g5 (by intro e; injection e with e; omega)
  have n5 := n4.grown g5 (by intro e; injection e with e; omega)
  have e5 := e4.grown g5 (by intro e; injection e with e; omega)
  obtain ⟨z5, hz5⟩ : ∃ z, laidOver (List.replicate 16 0) 0 sigma = z := ⟨_, rfl⟩
  rw [hz5] at r5 u4
  clear hz5 b4 k4 n4 e4 r4 g5 c0 iT hT4
  go_wp2_with fail
  go_loopw [13] (fun i wr => ∃ k : Nat, k ≤ 8 ∧ i = .int .i64 k ∧ Below w.heap.size w wr ∧ Row wr w.heap.size 22 .u8 key ∧ Row wr gn 24 .u8 nonce ∧ Row wr gr 48 .u32 (List.replicate 16 0) ∧ ∃ zs, Row wr gs 48 .u32 zs ∧ Upto F (4 + k) zs) (fun i _ => 8 - (intOf i).toNat)
  case atStart => exact ⟨0, by omega, rfl, b5, k5, n5, e5, z5, r5, u4⟩
  case round =>
    clear b5 k5 n5 e5 r5 u4
    obtain ⟨k, hk, rfl, hbl, kr, nr, er, zs, sr, hu⟩ := hrel
    have hk0 : (0 : Int) ≤ (k : Int) := by omega
    by_cases hlt : k < 8
    · have hlt' : (k : Int) < 8 := by omega
      have hsl : ∀ W, (Instr.sliceAt 22 (.pointer (some ⟨w.heap.size, 0, none⟩)) (some (.int .i64 (4 * (k : Int)))) (some (.int .i64 (4 * (k : Int) + 4))) none).run Tryd.prog W = .ok (.slice (some ⟨w.heap.size, 4 * k, none⟩) 4 (32 - 4 * k)) W := fun W => by
        have := run_slice_arr_lh (P := Tryd.prog) 22 5 32 w.heap.size (4 * k) (4 * k + 4) W Tryd.underlying22 (by kernel_rfl) (by omega) (by omega) (by omega)
        rw [show 4 * k + 4 - 4 * k = 4 by omega] at this
        exact this
      have ik := kr.mid (l := 4 * k) (m := 4) (by rw [HK.out]; omega)
      go_wp2_with fail
      refine (word_any w.heap.size (4 * k) 4 (32 - 4 * k) _ _ wr ik rfl).mono ?_
      rintro e w6 ⟨rfl, st⟩
      rw [LK.out k (by omega), ← FK.out k hlt]
      have kr6 := kr.below (st.below _) kr.lt
      have nr6 := nr.below (st.below _) nr.lt
      have er6 := er.below (st.below _) er.lt
      have sr6 := sr.below (st.below _) sr.lt
      have hb6 := hbl.trans (st.below _)
      have HU := Lib.hid (hu.set (by rw [FL.out]; omega))
      have hr32 : R32 (F.getD (4 + k) 0) := FS.out.get (by omega)
      have HZ := Lib.hid hu.1
      clear ik hsl hbl kr nr er sr
      generalize F.getD (4 + k) 0 = x at *
      go_wp2_with (refine wpList_store_elem (w := w6) rfl 23 _ _ rfl gs (4 + k) rfl 48 .u32 _ _ rfl sr6 (by rw [HZ.out, FL.out]; omega) info_u32 (wf_32 hr32) ?_; intro w7 q7 g7 z7)
      go_roundw
      case rel => exact ⟨k + 1, by omega, by go_num, hb6.grown g7 hb6.size (fun r e => by cases e; omega), kr6.grown g7 (by intro e; injection e with e; omega), nr6.grown g7 (by intro e; injection e with e; omega), er6.grown g7 (by intro e; injection e with e; omega), _, q7, HU.out⟩
      case measure => simp [intOf]; omega
    · have hk8 : k = 8 := by omega
      subst hk8
      have HU := Lib.hid (hu.set (by rw [FL.out]; omega))
      have HZ := Lib.hid hu.1
      rw [FC.out] at HU
      go_wp2_with (refine wpList_store_elem (w := wr) rfl 23 _ _ rfl gs 12 rfl 48 .u32 _ _ rfl sr (by rw [HZ.out, FL.out]; omega) info_u32 (wf_32 hc) ?_; intro w6 sr6 g6 z6)
      have hb6 := hbl.grown g6 hbl.size (fun r e => by cases e; omega)
      have nr6 := nr.grown g6 (by intro e; injection e with e; omega)
      have er6 := er.grown g6 (by intro e; injection e with e; omega)
      have hu6 := HU.out
      clear hbl kr nr er sr g6 z6 hu hk0
      go_loopw [29] (fun i wr => ∃ k : Nat, k ≤ 3 ∧ i = .int .i64 k ∧ Below w.heap.size w wr ∧ Row wr gn 24 .u8 nonce ∧ Row wr gr 48 .u32 (List.replicate 16 0) ∧ ∃ zs, Row wr gs 48 .u32 zs ∧ Upto F (13 + k) zs) (fun i _ => 3 - (intOf i).toNat)
      case atStart => exact ⟨0, by omega, rfl, hb6, nr6, er6, _, sr6, hu6⟩
      case round =>
        clear hb6 nr6 er6 sr6 hu6 HU HZ
        obtain ⟨k, hk, rfl, hbl, nr, er, zs, sr, hu⟩ := hrel
        have hk0 : (0 : Int) ≤ (k : Int) := by omega
        by_cases hlt : k < 3
        · have hlt' : (k : Int) < 3 := by omega
          have hsl : ∀ W, (Instr.sliceAt 24 (.pointer (some ⟨gn, 0, none⟩)) (some (.int .i64 (4 * (k : Int)))) (some (.int .i64 (4 * (k : Int) + 4))) none).run Tryd.prog W = .ok (.slice (some ⟨gn, 4 * k, none⟩) 4 (12 - 4 * k)) W := fun W => by
            have := run_slice_arr_lh (P := Tryd.prog) 24 5 12 gn (4 * k) (4 * k + 4) W Tryd.underlying24 (by kernel_rfl) (by omega) (by omega) (by omega)
            rw [show 4 * k + 4 - 4 * k = 4 by omega] at this
            exact this
          have ik := nr.mid (l := 4 * k) (m := 4) (by rw [HN.out]; omega)
          go_wp2_with fail
          refine (word_any gn (4 * k) 4 (12 - 4 * k) _ _ wr ik rfl).mono ?_
          rintro e w6 ⟨rfl, st⟩
          rw [LN.out k (by omega), ← FN.out k hlt]
          have nr6 := nr.below (st.below _) nr.lt
          have er6 := er.below (st.below _) er.lt
          have sr6 := sr.below (st.below _) sr.lt
          have hb6 := hbl.trans (st.below _)
          have HU := Lib.hid (hu.set (by rw [FL.out]; omega))
          have hr32 : R32 (F.getD (13 + k) 0) := FS.out.get (by omega)
          have HZ := Lib.hid hu.1
          clear ik hsl hbl nr er sr
          generalize F.getD (13 + k) 0 = x at *
          go_wp2_with (refine wpList_store_elem (w := w6) rfl 23 _ _ rfl gs (13 + k) rfl 48 .u32 _ _ rfl sr6 (by rw [HZ.out, FL.out]; omega) info_u32 (wf_32 hr32) ?_; intro w7 q7 g7 z7)
          go_roundw
          case rel => exact ⟨k + 1, by omega, by go_num, hb6.grown g7 hb6.size (fun r e => by cases e; omega), nr6.grown g7 (by intro e; injection e with e; omega), er6.grown g7 (by intro e; injection e with e; omega), _, q7, HU.out⟩
          case measure => simp [intOf]; omega
        · have hk3 : k = 3 := by omega
          subst hk3
          have hz := hu.eq (by rw [FL.out]; omega)
          subst hz
          go_wp2_with (first
            | (refine wpList_load_Row (w := wr) rfl 48 _ rfl gs rfl 48 .u32 _ sr 16 23 Tryd.underlying48 info_16 FL.out ?_)
            | (refine wpList_store_RowTo (w := wr) rfl 48 _ _ rfl gr rfl 48 .u32 _ zs rfl er 16 info_16 FL.out (by simp) (fun z hz => wf_32 (FS.out.2 z hz)) ?_; intro w8 q8 g8 z8))
          refine bodyPost_ret (results_Row rfl _ _ gr _ _ _ rfl q8 16 23 Tryd.underlying48 info_16 FL.out) rfl ?_
          exact ⟨by rw [HF.out], hbl.grown g8 hbl.size (fun r e => by cases e; omega)⟩
end Go.Proofs.YtejgnjnmlojdpaaDoor.Cha

