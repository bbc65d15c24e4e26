/-
  The document's own Tag (HMAC of one text) by its contract. Conditions: a key and a text of at most 2^40 bytes.
-/
import Derived.Test.YtbfdhbobokfbhaaDoorMac4
import Derived.Test.YtbfdhbobokfbhaaDoorShaR
namespace Go.Proofs.YtbfdhbobokfbhaaDoor.Mac
open Go.RowKit Go.Proofs.YtbfdhbobokfbhaaDoor.Mem Go.Proofs.YtbfdhbobokfbhaaDoor.Help Go.Proofs.YtbfdhbobokfbhaaDoor.Sum Go.Proofs.YtbfdhbobokfbhaaDoor.Sha
set_option linter.unusedVariables false

/-- the first k of 64, turned; zeros behind -/
def upto (t : Int) (bs : List Int) (k : Nat) : List Int := turned t (bs.take k) ++ List.replicate (64 - k) 0
theorem upto_start (t : Int) (bs : List Int) (h : bs.length = 64) : upto t bs 0 = List.replicate 64 0 := by simp only [upto, List.take_zero, turned, List.map_nil, List.nil_append]
theorem upto_length (t : Int) (bs : List Int) (k : Nat) (h : bs.length = 64) (hk : k ≤ 64) : (upto t bs k).length = 64 := by
  rw [upto, List.length_append, turned_length, List.length_take, List.length_replicate]; omega
theorem upto_end (t : Int) (bs : List Int) (h : bs.length = 64) : upto t bs 64 = turned t bs := by
  rw [upto, List.take_of_length_le (by omega), Nat.sub_self, List.replicate_zero, List.append_nil]
theorem upto_set (t : Int) (bs : List Int) {k : Nat} (h : bs.length = 64) (hk : k < 64) : (upto t bs k).set k (flip t (bs.getD k 0)) = upto t bs (k + 1) := by
  have hl : (turned t (bs.take k)).length = k := by rw [turned_length, List.length_take]; omega
  obtain ⟨m, hm⟩ : ∃ m, 64 - k = m + 1 := ⟨63 - k, by omega⟩
  have hm2 : 64 - (k + 1) = m := by omega
  have hkb : k < bs.length := by omega
  unfold upto
  rw [hm2, hm, List.set_append_right _ _ (by omega), hl, Nat.sub_self, List.replicate_succ, List.set_cons_zero, List.take_succ_eq_append_getElem hkb,
    show turned t (bs.take k ++ [bs[k]]) = turned t (bs.take k) ++ [flip t bs[k]] by rw [turned, List.map_append]; rfl, List.append_assoc, List.getD_eq_getElem?_getD, List.getElem?_eq_getElem hkb]
  rfl
theorem blk_get_lt (key : List Int) {k : Nat} (h : k < (fit key).length) : (blk key).getD k 0 = (fit key).getD k 0 := by
  rw [blk, List.getD_eq_getElem?_getD, List.getElem?_append_left h, ← List.getD_eq_getElem?_getD]
theorem blk_get_ge (key : List Int) {k : Nat} (h : (fit key).length ≤ k) : (blk key).getD k 0 = 0 := by
  rw [blk, List.getD_eq_getElem?_getD, List.getElem?_append_right h, List.getElem?_replicate]
  split <;> rfl

set_option maxRecDepth 100000 in
set_option maxHeartbeats 8000000 in
theorem rtag_any (B B' : Nat) (A A2 : Option Addr) (n c n2 c2 : Nat) (zs ys : List Int) (w : World) (h : Ints w .u8 B A n zs) (hB : B ≤ w.heap.size) (hn : n ≤ 1099511627776) (h2' : Ints w .u8 B' A2 n2 ys) (hB' : B' ≤ w.heap.size) (hn2 : n2 ≤ 549755813888) :
    Calls Tryd.prog 17 #[.slice A n c, .slice A2 n2 c2] w fun e w' => e = .returned (.agg (arr .u8 (tag zs ys))) ∧ Below w.heap.size w w' := by
  have hL := h.1
  have h2 := h2'.more hB'
  have HB := Lib.hid (blk_length zs)
  clear h2'
  by_cases hbig : 64 < n
  · have hbig' : (64 : Int) < (n : Int) := by omega
    have HF := Lib.hid (show fit zs = Sum.sha zs by unfold fit; rw [if_pos (by omega)])
    clear hL
    have hsl32 := fun W g => run_slice_arr_all (P := Tryd.prog) 25 5 32 g W Tryd.underlying25 (by kernel_rfl) (by omega)
    go_enter Tryd.func17, Tryd.ntmps17
    go_wp2_with (refine wpList_alloc_Row rfl 25 rfl .u8 32 zero_32 ?_; intro w0 r0 g0 z0)
    have b0 : Below w.heap.size w w0 := (Below.refl _ w).grown g0 (Nat.le_refl _) (by simp)
    have l0 := r0.lt
    refine (rsum_any B A n c zs _ (h.below (b0.mono hB)) (by omega) hn).mono ?_
    rintro e w1 ⟨rfl, hb1⟩
    have b1 := b0.trans (hb1.mono b0.size)
    have r1 := r0.below hb1 l0
    have l1 := r1.lt
    clear hb1 r0 b0 g0 z0 h
    go_wp2_with (first
      | (refine wpList_alloc_Row (w := w1) rfl 25 rfl .u8 32 zero_32 ?_; intro w2 r2 g2 z2)
      | (refine wpList_store_RowTo (w := w2) rfl 25 _ _ rfl w1.heap.size rfl 25 .u8 _ (Sum.sha zs) rfl r2 32 info_32 (sha_length _) (by simp) (fun z hz => wf_of_byte (sha_bytes _ z hz)) ?_; intro w3 r3 g3 z3; have iX := r3.ints (n := 32) (by rw [sha_length]; omega); rw [List.take_of_length_le (by rw [sha_length]; omega), ← HF.out] at iX; have rX := (r1.grown g2 (by simp)).grown g3 (by intro e; injection e with e; omega); have bX : Below w.heap.size w w3 := (b1.grown g2 b1.size (by simp)).grown g3 (by have := g2.size; have := b1.size; omega) (fun r e => by have := b1.size; cases e; omega))
      | (refine wpList_make_Row (w := w3) rfl _ _ 22 rfl 5 .u8 1 Tryd.underlying22 info_u8 .i64 .i64 _ _ 64 rfl rfl (by omega) (by omega) (by omega) (by omega) ?_; intro w6 r6 g6 z6; replace z6 := Lib.hid z6)
      | (refine wpList_make_Row (w := w6) rfl _ _ 22 rfl 5 .u8 1 Tryd.underlying22 info_u8 .i64 .i64 _ _ 64 rfl rfl (by omega) (by omega) (by omega) (by omega) ?_; intro w7 r7 g7 z7; replace z7 := Lib.hid z7))
    have lX := rX.lt
    have HNX := Lib.hid iX.1
    have b7 : Below w.heap.size w w7 := (bX.grown g6 bX.size (by simp)).grown g7 (by have := g6.size; have := bX.size; omega) (by simp)
    have r67 := r6.grown g7 (by simp)
    have rX7 := (rX.grown g6 (by simp)).grown g7 (by simp)
    have iX7 : Ints w7 .u8 w3.heap.size (some ⟨w1.heap.size, 0, none⟩) 32 (fit zs) := (iX.keep fun p hp => World.cell?_of_block (g6.block _ hp (by simp))).keep fun p hp => World.cell?_of_block (g7.block _ (by have := g6.size; omega) (by simp))
    have sX := bX.size
    have l67 := r6.lt
    obtain ⟨ga, hga⟩ : ∃ ga, w3.heap.size = ga := ⟨_, rfl⟩
    obtain ⟨gb, hgb⟩ : ∃ gb, w6.heap.size = gb := ⟨_, rfl⟩
    rw [hga] at r67 iX7 l67 lX sX
    rw [hgb] at l67 r7
    rw [hga, hgb]
    clear r6 g6 g7 z6 z7 iX rX bX hga hgb
    go_loopw [8] (fun i wr => ∃ k : Nat, k ≤ 64 ∧ i = .int .i64 k ∧ Row wr ga 5 .u8 (upto 54 (blk zs) k) ∧ Row wr gb 5 .u8 (upto 92 (blk zs) k) ∧ Row wr w.heap.size 25 .u8 (List.replicate 32 0) ∧ Ints wr .u8 ga (some ⟨w1.heap.size, 0, none⟩) 32 (fit zs) ∧ Below w.heap.size w wr) (fun i _ => 64 - (intOf i).toNat)
    case atStart => exact ⟨0, by omega, rfl, by rw [upto_start _ _ HB.out]; exact r67, by rw [upto_start _ _ HB.out]; exact r7, rX7, iX7, b7⟩
    case round =>
      clear r67 r7 rX7 iX7 b7
      obtain ⟨k, hk, rfl, ra, rb, ro, ix, bk⟩ := hrel
      by_cases hlt : k < 64
      · obtain ⟨oo, hka⟩ : ∃ oo, wr.cell? ⟨ga, k, none⟩ = some oo := ⟨_, ra.cell (i := k) (by rw [upto_length _ _ _ HB.out (by omega)]; omega)⟩
        have hfa := ra.frozen k
        have hfb := rb.frozen k
        have hlt' : (k : Int) < 64 := by omega
        have hk0 : (0 : Int) ≤ (k : Int) := by omega
        obtain ⟨x, hx⟩ : ∃ x, (blk zs).getD k 0 = x := ⟨_, rfl⟩
        have HSA := Lib.hid (upto_set 54 (blk zs) (k := k) HB.out hlt)
        have HSB := Lib.hid (upto_set 92 (blk zs) (k := k) HB.out hlt)
        rw [hx] at HSA HSB
        have sa : Hid (Row (wr.setCell ⟨ga, k, none⟩ (.int .u8 (flip 54 x))) ga 5 .u8 (upto 54 (blk zs) (k + 1))) := Lib.hid (by rw [← HSA.out]; exact ra.set k (flip_wf _ _))
        have sb : Hid (Row ((wr.setCell ⟨ga, k, none⟩ (.int .u8 (flip 54 x))).setCell ⟨gb, k, none⟩ (.int .u8 (flip 92 x))) gb 5 .u8 (upto 92 (blk zs) (k + 1))) := Lib.hid (by rw [← HSB.out]; exact (rb.other (by simpa using (by omega : ga ≠ gb)) _).set k (flip_wf _ _))
        have hfb2 : (wr.setCell ⟨ga, k, none⟩ (.int .u8 (flip 54 x))).frozen? ⟨gb, k, none⟩ = false := (rb.other (by simpa using (by omega : ga ≠ gb)) _).frozen k
        obtain ⟨ob, hkb2⟩ : ∃ ob, (wr.setCell ⟨ga, k, none⟩ (.int .u8 (flip 54 x))).cell? ⟨gb, k, none⟩ = some ob := ⟨_, (rb.other (by simpa using (by omega : ga ≠ gb)) (.int .u8 (flip 54 x))).cell (i := k) (by rw [upto_length _ _ _ HB.out (by omega)]; omega)⟩
        unfold flip at sa sb hfb2 hkb2
        by_cases hkn : k < 32
        · obtain ⟨b, off, eA, hbl, hcc⟩ := ix.at_ hkn
          have hxv : (fit zs).getD k 0 = x := by rw [← hx]; exact (blk_get_lt zs (by rw [HNX.out]; exact hkn)).symm
          rw [hxv] at hcc
          have hkn' : (k : Int) < (32 : Int) := by omega
          injection eA with eA; injection eA with eA1 eA2; subst eA1; subst eA2; rw [Nat.zero_add] at hcc
          clear hx hxv
          go_wp2_with fail
          go_roundw
          case rel => exact ⟨k + 1, by omega, by go_num, sa.out.other (by simpa using (by omega : gb ≠ ga)) _, sb.out, (ro.other (by simpa using (by omega : ga ≠ w.heap.size)) _).other (by simpa using (by omega : gb ≠ w.heap.size)) _, (ix.setCell (by simp) _).setCell (by simp; omega) _, (bk.setCell (by simp; omega) _).setCell (by simp; omega) _⟩
          case measure => simp [intOf]; omega
        · have hx0 : x = 0 := by rw [← hx]; exact blk_get_ge zs (by rw [HNX.out]; omega)
          have hkn' : ¬ (k : Int) < (32 : Int) := by omega
          subst hx0
          clear hx
          go_wp2_with fail
          go_roundw
          case rel => exact ⟨k + 1, by omega, by go_num, sa.out.other (by simpa using (by omega : gb ≠ ga)) _, sb.out, (ro.other (by simpa using (by omega : ga ≠ w.heap.size)) _).other (by simpa using (by omega : gb ≠ w.heap.size)) _, (ix.setCell (by simp) _).setCell (by simp; omega) _, (bk.setCell (by simp; omega) _).setCell (by simp; omega) _⟩
          case measure => simp [intOf]; omega
      · have hk64 : k = 64 := by omega
        subst hk64
        rw [upto_end _ _ HB.out] at ra rb
        clear ix
        have oa := ra.own (base := ga) (Nat.le_refl _) (n := 64) (by rw [turned_length, HB.out]; omega) (by rw [turned_length, HB.out]; simp [maxLen])
        have ob := rb.own (base := gb) (Nat.le_refl _) (n := 64) (by rw [turned_length, HB.out]; omega) (by rw [turned_length, HB.out]; simp [maxLen])
        rw [turned_length, HB.out, List.take_of_length_le (by rw [turned_length, HB.out]; omega)] at oa ob
        have HTA := Lib.hid (turned_length 54 (blk zs))
        have HTB := Lib.hid (turned_length 92 (blk zs))
        have lgb := rb.lt
        have ti := h2.below bk
        clear ra rb
        go_wp2_with (at_builtin; refine wpList_append_ints _ rfl _ _ 22 rfl ga 5 .u8 1 Tryd.underlying22 info_u8 _ _ rfl oa w.heap.size A2 n2 c2 ys rfl ti (by rw [HTA.out, HB.out]; omega) (by omega) (by omega) ?_; intro v3 w3 o3 g3 at3)
        have b3 : Below w.heap.size w w3 := bk.grown g3 bk.size (fun r e => by have : some ga = some r := e; cases this; omega)
        have ob3 := ob.kept g3 (.inr (fun e => by have e : some gb = some ga := e; injection e with e; omega))
        have ro3 := ro.grown g3 (fun e => by have e : some w.heap.size = some ga := e; injection e with e; omega)
        obtain ⟨A3, c3, rfl, _, _, i3⟩ := o3.form
        have HL3 := Lib.hid (show (turned 54 (blk zs) ++ ys).length = 64 + n2 by rw [List.length_append, HTA.out, HB.out, h2.1])
        rw [HL3.out] at i3 ⊢
        have lg3 := g3.size
        clear oa o3 g3 at3 ob ro ti bk
        go_wp2_with fail
        refine (rsum_any _ A3 (64 + n2) c3 (turned 54 (blk zs) ++ ys) _ i3 (Nat.le_refl _) (by omega)).mono ?_
        rintro e w4 ⟨rfl, hb4⟩
        have b4 := b3.trans (hb4.mono b3.size)
        have ob4 := ob3.below hb4
        have ro4 := ro3.below hb4 ro3.lt
        have lg4 := hb4.size
        obtain ⟨msg, hmsg⟩ : ∃ msg, Sum.sha (turned 54 (blk zs) ++ ys) = msg := ⟨_, rfl⟩
        have hml : msg.length = 32 := by rw [← hmsg]; exact sha_length _
        have hmb : Bs msg := by rw [← hmsg]; exact sha_bytes _
        rw [hmsg]
        have HTG := Lib.hid (show tag zs ys = Sum.sha (turned 92 (blk zs) ++ msg) by unfold tag; rw [hmsg])
        have HML := Lib.hid hml
        clear b3 ob3 ro3 hb4 i3 hmsg hml
        have hslM := fun W g => run_slice_arr_all (P := Tryd.prog) 25 5 32 g W Tryd.underlying25 (by kernel_rfl) (by omega)
        go_wp2_with (first
          | (refine wpList_alloc_Row (w := w4) rfl 25 rfl .u8 32 zero_32 ?_; intro w5 r5 g5 z5)
          | (refine wpList_store_RowTo (w := w5) rfl 25 _ _ rfl w4.heap.size rfl 25 .u8 _ msg rfl r5 32 info_32 HML.out (by simp) (fun z hz => wf_of_byte (hmb z hz)) ?_; intro w6 r6 g6 z6; have i6 := r6.ints (n := 32) (by rw [HML.out]; omega); rw [List.take_of_length_le (by rw [HML.out]; omega)] at i6; have ob6 := (ob4.kept g5 (.inr (fun e => by cases e))).kept g6 (.inr (fun e => by have e : some gb = some w4.heap.size := e; injection e with e; omega)); have ro6 := (ro4.grown g5 (by simp)).grown g6 (fun e => by have e : some w.heap.size = some w4.heap.size := e; injection e with e; omega))
          | (at_builtin; refine wpList_append_ints (w := w6) rfl _ _ 22 rfl gb 5 .u8 1 Tryd.underlying22 info_u8 _ _ rfl ob6 w6.heap.size (some ⟨w4.heap.size, 0, none⟩) 32 32 msg rfl i6 (by rw [HTB.out, HB.out]; omega) (by omega) (by have := g5.size; have := g6.size; omega) ?_; intro v8 w8 o8 g8 at8))
        have b6 : Below w.heap.size w w6 := (b4.grown g5 b4.size (by simp)).grown g6 (by have := g5.size; have := b4.size; omega) (fun r e => by have := b4.size; cases e; omega)
        have b8 : Below w.heap.size w w8 := b6.grown g8 b6.size (fun r e => by have : some gb = some r := e; cases this; omega)
        have ro8 := ro6.grown g8 (fun e => by have e : some w.heap.size = some gb := e; injection e with e; omega)
        obtain ⟨A8, c8, rfl, _, _, i8⟩ := o8.form
        have HL8 := Lib.hid (show (turned 92 (blk zs) ++ msg).length = 96 by rw [List.length_append, HTB.out, HB.out, HML.out])
        rw [HL8.out] at i8 ⊢
        clear o8 g8 at8 ro6 ob6 b6 ro4 ob4 b4
        go_wp2_with fail
        refine (rsum_any _ A8 96 c8 (turned 92 (blk zs) ++ msg) _ i8 (Nat.le_refl _) (by omega)).mono ?_
        rintro e w9 ⟨rfl, hb9⟩
        have b9 := b8.trans (hb9.mono b8.size)
        have r9 := ro8.below hb9 ro8.lt
        rw [← HTG.out]
        have HTL := Lib.hid (tag_length zs ys)
        go_wp2_with (refine wpList_store_RowTo (w := w9) rfl 25 _ _ rfl w.heap.size rfl 25 .u8 _ (tag zs ys) rfl r9 32 info_32 HTL.out (by simp) (fun z hz => wf_of_byte (tag_bytes _ _ z hz)) ?_; intro w10 r10 g10 z10)
        exact bodyPost_ret (results_Row rfl _ _ w.heap.size _ _ _ rfl r10 32 5 Tryd.underlying25 info_32 HTL.out) rfl ⟨rfl, b9.grown g10 b9.size (fun r e => by cases e; exact Nat.le_refl _)⟩
  · have hbig' : ¬ (64 : Int) < (n : Int) := by omega
    have HF := Lib.hid (show fit zs = zs by unfold fit; rw [if_neg (by omega)])
    clear hL
    go_enter Tryd.func17, Tryd.ntmps17
    go_wp2_with (first
      | (refine wpList_alloc_Row (w := w) rfl 25 rfl .u8 32 zero_32 ?_; intro w3 rX g3 z3; have bX : Below w.heap.size w w3 := (Below.refl _ w).grown g3 (Nat.le_refl _) (by simp); have iX := (h.below (bX.mono hB)).more (show B ≤ w3.heap.size by have := g3.size; omega); rw [← HF.out] at iX)
      | (refine wpList_make_Row (w := w3) rfl _ _ 22 rfl 5 .u8 1 Tryd.underlying22 info_u8 .i64 .i64 _ _ 64 rfl rfl (by omega) (by omega) (by omega) (by omega) ?_; intro w6 r6 g6 z6; replace z6 := Lib.hid z6)
      | (refine wpList_make_Row (w := w6) rfl _ _ 22 rfl 5 .u8 1 Tryd.underlying22 info_u8 .i64 .i64 _ _ 64 rfl rfl (by omega) (by omega) (by omega) (by omega) ?_; intro w7 r7 g7 z7; replace z7 := Lib.hid z7))
    have lX := rX.lt
    have HNX := Lib.hid iX.1
    have b7 : Below w.heap.size w w7 := (bX.grown g6 bX.size (by simp)).grown g7 (by have := g6.size; have := bX.size; omega) (by simp)
    have r67 := r6.grown g7 (by simp)
    have rX7 := (rX.grown g6 (by simp)).grown g7 (by simp)
    have iX7 : Ints w7 .u8 w3.heap.size A n (fit zs) := (iX.keep fun p hp => World.cell?_of_block (g6.block _ hp (by simp))).keep fun p hp => World.cell?_of_block (g7.block _ (by have := g6.size; omega) (by simp))
    have sX := bX.size
    have l67 := r6.lt
    obtain ⟨ga, hga⟩ : ∃ ga, w3.heap.size = ga := ⟨_, rfl⟩
    obtain ⟨gb, hgb⟩ : ∃ gb, w6.heap.size = gb := ⟨_, rfl⟩
    rw [hga] at r67 iX7 l67 lX sX
    rw [hgb] at l67 r7
    rw [hga, hgb]
    clear r6 g6 g7 z6 z7 iX rX bX hga hgb
    go_loopw [8] (fun i wr => ∃ k : Nat, k ≤ 64 ∧ i = .int .i64 k ∧ Row wr ga 5 .u8 (upto 54 (blk zs) k) ∧ Row wr gb 5 .u8 (upto 92 (blk zs) k) ∧ Row wr w.heap.size 25 .u8 (List.replicate 32 0) ∧ Ints wr .u8 ga A n (fit zs) ∧ Below w.heap.size w wr) (fun i _ => 64 - (intOf i).toNat)
    case atStart => exact ⟨0, by omega, rfl, by rw [upto_start _ _ HB.out]; exact r67, by rw [upto_start _ _ HB.out]; exact r7, rX7, iX7, b7⟩
    case round =>
      clear r67 r7 rX7 iX7 b7
      obtain ⟨k, hk, rfl, ra, rb, ro, ix, bk⟩ := hrel
      by_cases hlt : k < 64
      · obtain ⟨oo, hka⟩ : ∃ oo, wr.cell? ⟨ga, k, none⟩ = some oo := ⟨_, ra.cell (i := k) (by rw [upto_length _ _ _ HB.out (by omega)]; omega)⟩
        have hfa := ra.frozen k
        have hfb := rb.frozen k
        have hlt' : (k : Int) < 64 := by omega
        have hk0 : (0 : Int) ≤ (k : Int) := by omega
        obtain ⟨x, hx⟩ : ∃ x, (blk zs).getD k 0 = x := ⟨_, rfl⟩
        have HSA := Lib.hid (upto_set 54 (blk zs) (k := k) HB.out hlt)
        have HSB := Lib.hid (upto_set 92 (blk zs) (k := k) HB.out hlt)
        rw [hx] at HSA HSB
        have sa : Hid (Row (wr.setCell ⟨ga, k, none⟩ (.int .u8 (flip 54 x))) ga 5 .u8 (upto 54 (blk zs) (k + 1))) := Lib.hid (by rw [← HSA.out]; exact ra.set k (flip_wf _ _))
        have sb : Hid (Row ((wr.setCell ⟨ga, k, none⟩ (.int .u8 (flip 54 x))).setCell ⟨gb, k, none⟩ (.int .u8 (flip 92 x))) gb 5 .u8 (upto 92 (blk zs) (k + 1))) := Lib.hid (by rw [← HSB.out]; exact (rb.other (by simpa using (by omega : ga ≠ gb)) _).set k (flip_wf _ _))
        have hfb2 : (wr.setCell ⟨ga, k, none⟩ (.int .u8 (flip 54 x))).frozen? ⟨gb, k, none⟩ = false := (rb.other (by simpa using (by omega : ga ≠ gb)) _).frozen k
        obtain ⟨ob, hkb2⟩ : ∃ ob, (wr.setCell ⟨ga, k, none⟩ (.int .u8 (flip 54 x))).cell? ⟨gb, k, none⟩ = some ob := ⟨_, (rb.other (by simpa using (by omega : ga ≠ gb)) (.int .u8 (flip 54 x))).cell (i := k) (by rw [upto_length _ _ _ HB.out (by omega)]; omega)⟩
        unfold flip at sa sb hfb2 hkb2
        by_cases hkn : k < n
        · obtain ⟨b, off, eA, hbl, hcc⟩ := ix.at_ hkn
          have hxv : (fit zs).getD k 0 = x := by rw [← hx]; exact (blk_get_lt zs (by rw [HNX.out]; exact hkn)).symm
          rw [hxv] at hcc
          have hkn' : (k : Int) < (n : Int) := by omega
          subst eA
          clear hx hxv
          go_wp2_with fail
          go_roundw
          case rel => exact ⟨k + 1, by omega, by go_num, sa.out.other (by simpa using (by omega : gb ≠ ga)) _, sb.out, (ro.other (by simpa using (by omega : ga ≠ w.heap.size)) _).other (by simpa using (by omega : gb ≠ w.heap.size)) _, (ix.setCell (by simp) _).setCell (by simp; omega) _, (bk.setCell (by simp; omega) _).setCell (by simp; omega) _⟩
          case measure => simp [intOf]; omega
        · have hx0 : x = 0 := by rw [← hx]; exact blk_get_ge zs (by rw [HNX.out]; omega)
          have hkn' : ¬ (k : Int) < (n : Int) := by omega
          subst hx0
          clear hx
          go_wp2_with fail
          go_roundw
          case rel => exact ⟨k + 1, by omega, by go_num, sa.out.other (by simpa using (by omega : gb ≠ ga)) _, sb.out, (ro.other (by simpa using (by omega : ga ≠ w.heap.size)) _).other (by simpa using (by omega : gb ≠ w.heap.size)) _, (ix.setCell (by simp) _).setCell (by simp; omega) _, (bk.setCell (by simp; omega) _).setCell (by simp; omega) _⟩
          case measure => simp [intOf]; omega
      · have hk64 : k = 64 := by omega
        subst hk64
        rw [upto_end _ _ HB.out] at ra rb
        clear ix
        have oa := ra.own (base := ga) (Nat.le_refl _) (n := 64) (by rw [turned_length, HB.out]; omega) (by rw [turned_length, HB.out]; simp [maxLen])
        have ob := rb.own (base := gb) (Nat.le_refl _) (n := 64) (by rw [turned_length, HB.out]; omega) (by rw [turned_length, HB.out]; simp [maxLen])
        rw [turned_length, HB.out, List.take_of_length_le (by rw [turned_length, HB.out]; omega)] at oa ob
        have HTA := Lib.hid (turned_length 54 (blk zs))
        have HTB := Lib.hid (turned_length 92 (blk zs))
        have lgb := rb.lt
        have ti := h2.below bk
        clear ra rb
        go_wp2_with (at_builtin; refine wpList_append_ints _ rfl _ _ 22 rfl ga 5 .u8 1 Tryd.underlying22 info_u8 _ _ rfl oa w.heap.size A2 n2 c2 ys rfl ti (by rw [HTA.out, HB.out]; omega) (by omega) (by omega) ?_; intro v3 w3 o3 g3 at3)
        have b3 : Below w.heap.size w w3 := bk.grown g3 bk.size (fun r e => by have : some ga = some r := e; cases this; omega)
        have ob3 := ob.kept g3 (.inr (fun e => by have e : some gb = some ga := e; injection e with e; omega))
        have ro3 := ro.grown g3 (fun e => by have e : some w.heap.size = some ga := e; injection e with e; omega)
        obtain ⟨A3, c3, rfl, _, _, i3⟩ := o3.form
        have HL3 := Lib.hid (show (turned 54 (blk zs) ++ ys).length = 64 + n2 by rw [List.length_append, HTA.out, HB.out, h2.1])
        rw [HL3.out] at i3 ⊢
        have lg3 := g3.size
        clear oa o3 g3 at3 ob ro ti bk
        go_wp2_with fail
        refine (rsum_any _ A3 (64 + n2) c3 (turned 54 (blk zs) ++ ys) _ i3 (Nat.le_refl _) (by omega)).mono ?_
        rintro e w4 ⟨rfl, hb4⟩
        have b4 := b3.trans (hb4.mono b3.size)
        have ob4 := ob3.below hb4
        have ro4 := ro3.below hb4 ro3.lt
        have lg4 := hb4.size
        obtain ⟨msg, hmsg⟩ : ∃ msg, Sum.sha (turned 54 (blk zs) ++ ys) = msg := ⟨_, rfl⟩
        have hml : msg.length = 32 := by rw [← hmsg]; exact sha_length _
        have hmb : Bs msg := by rw [← hmsg]; exact sha_bytes _
        rw [hmsg]
        have HTG := Lib.hid (show tag zs ys = Sum.sha (turned 92 (blk zs) ++ msg) by unfold tag; rw [hmsg])
        have HML := Lib.hid hml
        clear b3 ob3 ro3 hb4 i3 hmsg hml
        have hslM := fun W g => run_slice_arr_all (P := Tryd.prog) 25 5 32 g W Tryd.underlying25 (by kernel_rfl) (by omega)
        go_wp2_with (first
          | (refine wpList_alloc_Row (w := w4) rfl 25 rfl .u8 32 zero_32 ?_; intro w5 r5 g5 z5)
          | (refine wpList_store_RowTo (w := w5) rfl 25 _ _ rfl w4.heap.size rfl 25 .u8 _ msg rfl r5 32 info_32 HML.out (by simp) (fun z hz => wf_of_byte (hmb z hz)) ?_; intro w6 r6 g6 z6; have i6 := r6.ints (n := 32) (by rw [HML.out]; omega); rw [List.take_of_length_le (by rw [HML.out]; omega)] at i6; have ob6 := (ob4.kept g5 (.inr (fun e => by cases e))).kept g6 (.inr (fun e => by have e : some gb = some w4.heap.size := e; injection e with e; omega)); have ro6 := (ro4.grown g5 (by simp)).grown g6 (fun e => by have e : some w.heap.size = some w4.heap.size := e; injection e with e; omega))
          | (at_builtin; refine wpList_append_ints (w := w6) rfl _ _ 22 rfl gb 5 .u8 1 Tryd.underlying22 info_u8 _ _ rfl ob6 w6.heap.size (some ⟨w4.heap.size, 0, none⟩) 32 32 msg rfl i6 (by rw [HTB.out, HB.out]; omega) (by omega) (by have := g5.size; have := g6.size; omega) ?_; intro v8 w8 o8 g8 at8))
        have b6 : Below w.heap.size w w6 := (b4.grown g5 b4.size (by simp)).grown g6 (by have := g5.size; have := b4.size; omega) (fun r e => by have := b4.size; cases e; omega)
        have b8 : Below w.heap.size w w8 := b6.grown g8 b6.size (fun r e => by have : some gb = some r := e; cases this; omega)
        have ro8 := ro6.grown g8 (fun e => by have e : some w.heap.size = some gb := e; injection e with e; omega)
        obtain ⟨A8, c8, rfl, _, _, i8⟩ := o8.form
        have HL8 := Lib.hid (show (turned 92 (blk zs) ++ msg).length = 96 by rw [List.length_append, HTB.out, HB.out, HML.out])
        rw [HL8.out] at i8 ⊢
        clear o8 g8 at8 ro6 ob6 b6 ro4 ob4 b4
        go_wp2_with fail
        refine (rsum_any _ A8 96 c8 (turned 92 (blk zs) ++ msg) _ i8 (Nat.le_refl _) (by omega)).mono ?_
        rintro e w9 ⟨rfl, hb9⟩
        have b9 := b8.trans (hb9.mono b8.size)
        have r9 := ro8.below hb9 ro8.lt
        rw [← HTG.out]
        have HTL := Lib.hid (tag_length zs ys)
        go_wp2_with (refine wpList_store_RowTo (w := w9) rfl 25 _ _ rfl w.heap.size rfl 25 .u8 _ (tag zs ys) rfl r9 32 info_32 HTL.out (by simp) (fun z hz => wf_of_byte (tag_bytes _ _ z hz)) ?_; intro w10 r10 g10 z10)
        exact bodyPost_ret (results_Row rfl _ _ w.heap.size _ _ _ rfl r10 32 5 Tryd.underlying25 info_32 HTL.out) rfl ⟨rfl, b9.grown g10 b9.size (fun r e => by cases e; exact Nat.le_refl _)⟩
end Go.Proofs.YtbfdhbobokfbhaaDoor.Mac

