/-
  The document's own Tag (HMAC of one text) by its contract.
  Texts within a drawn region, and small lists of numbers as rows of their own: no program here.
  More operations of a drawn region, one by one: make, append with new room, texts that are not alike; dominohelp.Bytes of like texts.
  Slices cut: s[:h] and s[l:] by their run, and what they read as.
  The document's own Extract, Expand and Key (package dominoref04) by their contracts.
  copy within a region that draws its order: no program here.
  A store of one number into a block that is known whole, the new world a letter: no program here.
-/
import Derived.Test.YtjelacblnjbfgaaGreatDoorB5
import Derived.Test.YtjelacblnjbfgaaGreatDoorB7
import Derived.Test.YtjelacblnjbfgaaGreatDoorB6
import Derived.Test.YtjelacblnjbfgaaGreatDoorB2
import Derived.Deep.OwnRows
import Derived.Test.YtjelacblnjbfgaaGreatDoorB1
import Derived.Laws.Slices
import Derived.Test.YtjelacblnjbfgaaGreatDoorB4
set_option linter.unusedVariables false
namespace Go.Proofs.YtjelacblnjbfgaaGreatDoor.Mac
open Go.RowKit Mem Help Go.Proofs.YtjelacblnjbfgaaGreatDoor.Sum Sha
attribute [local irreducible] wpList wpListIn
def upto (t : Int) (bs : List Int) (k : Nat) : List Int := turned t (bs.take k) ++ List.replicate (64 - k) 0
theorem upto_start (t : Int) (bs : List Int) (h : bs.length = 64) : upto t bs 0 = List.replicate 64 0 := by simp only [upto, List.take_zero, turned, List.map_nil, List.nil_append]
theorem upto_length (t : Int) (bs : List Int) (k : Nat) (h : bs.length = 64) (hk : k ≤ 64) : (upto t bs k).length = 64 := by
  rw [upto, List.length_append, turned_length, List.length_take, List.length_replicate]; omega
theorem upto_end (t : Int) (bs : List Int) (h : bs.length = 64) : upto t bs 64 = turned t bs := by
  rw [upto, List.take_of_length_le (by omega), Nat.sub_self, List.replicate_zero, List.append_nil]
theorem upto_set (t : Int) (bs : List Int) {k : Nat} (h : bs.length = 64) (hk : k < 64) : (upto t bs k).set k (flip t (bs.getD k 0)) = upto t bs (k + 1) := by
  have hl : (turned t (bs.take k)).length = k := by rw [turned_length, List.length_take]; omega
  obtain ⟨m, hm⟩ : ∃ m, 64 - k = m + 1 := ⟨63 - k, by omega⟩
  have hm2 : 64 - (k + 1) = m := by omega
  have hkb : k < bs.length := by omega
  unfold upto
  rw [hm2, hm, List.set_append_right _ _ (by omega), hl, Nat.sub_self, List.replicate_succ, List.set_cons_zero, List.take_succ_eq_append_getElem hkb,
    show turned t (bs.take k ++ [bs[k]]) = turned t (bs.take k) ++ [flip t bs[k]] by rw [turned, List.map_append]; rfl, List.append_assoc, List.getD_eq_getElem?_getD, List.getElem?_eq_getElem hkb]
  rfl
theorem blk_get_lt (key : List Int) {k : Nat} (h : k < (fit key).length) : (blk key).getD k 0 = (fit key).getD k 0 := by
  rw [blk, List.getD_eq_getElem?_getD, List.getElem?_append_left h, ← List.getD_eq_getElem?_getD]
theorem blk_get_ge (key : List Int) {k : Nat} (h : (fit key).length ≤ k) : (blk key).getD k 0 = 0 := by
  rw [blk, List.getD_eq_getElem?_getD, List.getElem?_append_right h, List.getElem?_replicate]
  split <;> rfl
set_option maxRecDepth 100000 in
set_option maxHeartbeats 8000000 in
theorem rtag_any (B B' : Nat) (A A2 : Option Addr) (n c n2 c2 : Nat) (zs ys : List Int) (w : World) (h : Ints w .u8 B A n zs) (hB : B ≤ w.heap.size) (hn : n ≤ 1099511627776) (h2' : Ints w .u8 B' A2 n2 ys) (hB' : B' ≤ w.heap.size) (hn2 : n2 ≤ 549755813888) :
    Calls Tryz.prog 97 #[.slice A n c, .slice A2 n2 c2] w fun e w' => e = .returned (.agg (arr .u8 (tag zs ys))) ∧ Below w.heap.size w w' := by
  have hL := h.1
  have h2 := h2'.more hB'
  have HB := Lib.hid (blk_length zs)
  clear h2'
  by_cases hbig : 64 < n
  · have hbig' : (64 : Int) < (n : Int) := by omega
    have HF := Lib.hid (show fit zs = Sum.sha zs by unfold fit; rw [if_pos (by omega)])
    clear hL
    have hsl32 := fun W g => run_slice_arr_all (P := Tryz.prog) 22 5 32 g W Tryz.underlying22 (by kernel_rfl) (by omega)
    go_enter Tryz.func97, Tryz.ntmps97
    go_wp2_with (refine wpList_alloc_Row rfl 22 rfl .u8 32 zero_32 ?_; intro w0 r0 g0 z0)
    have b0 : Below w.heap.size w w0 := (Below.refl _ w).grown g0 (Nat.le_refl _) (by simp)
    have l0 := r0.lt
    refine (rsum_any B A n c zs _ (h.below (b0.mono hB)) (by omega) hn).mono ?_
    rintro e w1 ⟨rfl, hb1⟩
    have b1 := b0.trans (hb1.mono b0.size)
    have r1 := r0.below hb1 l0
    have l1 := r1.lt
    clear hb1 r0 b0 g0 z0 h
    go_wp2_with (first
      | (refine wpList_alloc_Row (w := w1) rfl 22 rfl .u8 32 zero_32 ?_; intro w2 r2 g2 z2)
      | (refine wpList_store_RowTo (w := w2) rfl 22 _ _ rfl w1.heap.size rfl 22 .u8 _ (Sum.sha zs) rfl r2 32 info_32 (sha_length _) (by simp) (fun z hz => wf_of_byte (sha_bytes _ z hz)) ?_; intro w3 r3 g3 z3; have iX := r3.ints (n := 32) (by rw [sha_length]; omega); rw [List.take_of_length_le (by rw [sha_length]; omega), ← HF.out] at iX; have rX := (r1.grown g2 (by simp)).grown g3 (by intro e; injection e with e; omega); have bX : Below w.heap.size w w3 := (b1.grown g2 b1.size (by simp)).grown g3 (by have := g2.size; have := b1.size; omega) (fun r e => by have := b1.size; cases e; omega))
      | (refine wpList_make_Row (w := w3) rfl _ _ 27 rfl 5 .u8 1 Tryz.underlying27 info_u8 .i64 .i64 _ _ 64 rfl rfl (by omega) (by omega) (by omega) (by omega) ?_; intro w6 r6 g6 z6; replace z6 := Lib.hid z6)
      | (refine wpList_make_Row (w := w6) rfl _ _ 27 rfl 5 .u8 1 Tryz.underlying27 info_u8 .i64 .i64 _ _ 64 rfl rfl (by omega) (by omega) (by omega) (by omega) ?_; intro w7 r7 g7 z7; replace z7 := Lib.hid z7))
    have lX := rX.lt
    have HNX := Lib.hid iX.1
    have b7 : Below w.heap.size w w7 := (bX.grown g6 bX.size (by simp)).grown g7 (by have := g6.size; have := bX.size; omega) (by simp)
    have r67 := r6.grown g7 (by simp)
    have rX7 := (rX.grown g6 (by simp)).grown g7 (by simp)
    have iX7 : Ints w7 .u8 w3.heap.size (some ⟨w1.heap.size, 0, none⟩) 32 (fit zs) := (iX.keep fun p hp => World.cell?_of_block (g6.block _ hp (by simp))).keep fun p hp => World.cell?_of_block (g7.block _ (by have := g6.size; omega) (by simp))
    have sX := bX.size
    have l67 := r6.lt
    obtain ⟨ga, hga⟩ : ∃ ga, w3.heap.size = ga := ⟨_, rfl⟩
    obtain ⟨gb, hgb⟩ : ∃ gb, w6.heap.size = gb := ⟨_, rfl⟩
    rw [hga] at r67 iX7 l67 lX sX
    rw [hgb] at l67 r7
    rw [hga, hgb]
    clear r6 g6 g7 z6 z7 iX rX bX hga hgb
    go_loopw [8] (fun i wr => ∃ k : Nat, k ≤ 64 ∧ i = .int .i64 k ∧ Row wr ga 5 .u8 (upto 54 (blk zs) k) ∧ Row wr gb 5 .u8 (upto 92 (blk zs) k) ∧ Row wr w.heap.size 22 .u8 (List.replicate 32 0) ∧ Ints wr .u8 ga (some ⟨w1.heap.size, 0, none⟩) 32 (fit zs) ∧ Below w.heap.size w wr) (fun i _ => 64 - (intOf i).toNat)
    case atStart => exact ⟨0, by omega, rfl, by rw [upto_start _ _ HB.out]; exact r67, by rw [upto_start _ _ HB.out]; exact r7, rX7, iX7, b7⟩
    case round =>
      clear r67 r7 rX7 iX7 b7
      obtain ⟨k, hk, rfl, ra, rb, ro, ix, bk⟩ := hrel
      by_cases hlt : k < 64
      · obtain ⟨oo, hka⟩ : ∃ oo, wr.cell? ⟨ga, k, none⟩ = some oo := ⟨_, ra.cell (i := k) (by rw [upto_length _ _ _ HB.out (by omega)]; omega)⟩
        have hfa := ra.frozen k
        have hfb := rb.frozen k
        have hlt' : (k : Int) < 64 := by omega
        have hk0 : (0 : Int) ≤ (k : Int) := by omega
        obtain ⟨x, hx⟩ : ∃ x, (blk zs).getD k 0 = x := ⟨_, rfl⟩
        have HSA := Lib.hid (upto_set 54 (blk zs) (k := k) HB.out hlt)
        have HSB := Lib.hid (upto_set 92 (blk zs) (k := k) HB.out hlt)
        rw [hx] at HSA HSB
        have sa : Hid (Row (wr.setCell ⟨ga, k, none⟩ (.int .u8 (flip 54 x))) ga 5 .u8 (upto 54 (blk zs) (k + 1))) := Lib.hid (by rw [← HSA.out]; exact ra.set k (flip_wf _ _))
        have sb : Hid (Row ((wr.setCell ⟨ga, k, none⟩ (.int .u8 (flip 54 x))).setCell ⟨gb, k, none⟩ (.int .u8 (flip 92 x))) gb 5 .u8 (upto 92 (blk zs) (k + 1))) := Lib.hid (by rw [← HSB.out]; exact (rb.other (by simpa using (by omega : ga ≠ gb)) _).set k (flip_wf _ _))
        have hfb2 : (wr.setCell ⟨ga, k, none⟩ (.int .u8 (flip 54 x))).frozen? ⟨gb, k, none⟩ = false := (rb.other (by simpa using (by omega : ga ≠ gb)) _).frozen k
        obtain ⟨ob, hkb2⟩ : ∃ ob, (wr.setCell ⟨ga, k, none⟩ (.int .u8 (flip 54 x))).cell? ⟨gb, k, none⟩ = some ob := ⟨_, (rb.other (by simpa using (by omega : ga ≠ gb)) (.int .u8 (flip 54 x))).cell (i := k) (by rw [upto_length _ _ _ HB.out (by omega)]; omega)⟩
        unfold flip at sa sb hfb2 hkb2
        by_cases hkn : k < 32
        · obtain ⟨b, off, eA, hbl, hcc⟩ := ix.at_ hkn
          have hxv : (fit zs).getD k 0 = x := by rw [← hx]; exact (blk_get_lt zs (by rw [HNX.out]; exact hkn)).symm
          rw [hxv] at hcc
          have hkn' : (k : Int) < (32 : Int) := by omega
          injection eA with eA; injection eA with eA1 eA2; subst eA1; subst eA2; rw [Nat.zero_add] at hcc
          clear hx hxv
          go_wp2_with fail
          go_roundw
          case rel => exact ⟨k + 1, by omega, by go_num, sa.out.other (by simpa using (by omega : gb ≠ ga)) _, sb.out, (ro.other (by simpa using (by omega : ga ≠ w.heap.size)) _).other (by simpa using (by omega : gb ≠ w.heap.size)) _, (ix.setCell (by simp) _).setCell (by simp; omega) _, (bk.setCell (by simp; omega) _).setCell (by simp; omega) _⟩
          case measure => simp [intOf]; omega
        · have hx0 : x = 0 := by rw [← hx]; exact blk_get_ge zs (by rw [HNX.out]; omega)
          have hkn' : ¬ (k : Int) < (32 : Int) := by omega
          subst hx0
          clear hx
          go_wp2_with fail
          go_roundw
          case rel => exact ⟨k + 1, by omega, by go_num, sa.out.other (by simpa using (by omega : gb ≠ ga)) _, sb.out, (ro.other (by simpa using (by omega : ga ≠ w.heap.size)) _).other (by simpa using (by omega : gb ≠ w.heap.size)) _, (ix.setCell (by simp) _).setCell (by simp; omega) _, (bk.setCell (by simp; omega) _).setCell (by simp; omega) _⟩
          case measure => simp [intOf]; omega
      · have hk64 : k = 64 := by omega
        subst hk64
        rw [upto_end _ _ HB.out] at ra rb
        clear ix
        have oa := ra.own (base := ga) (Nat.le_refl _) (n := 64) (by rw [turned_length, HB.out]; omega) (by rw [turned_length, HB.out]; simp [maxLen])
        have ob := rb.own (base := gb) (Nat.le_refl _) (n := 64) (by rw [turned_length, HB.out]; omega) (by rw [turned_length, HB.out]; simp [maxLen])
        rw [turned_length, HB.out, List.take_of_length_le (by rw [turned_length, HB.out]; omega)] at oa ob
        have HTA := Lib.hid (turned_length 54 (blk zs))
        have HTB := Lib.hid (turned_length 92 (blk zs))
        have lgb := rb.lt
        have ti := h2.below bk
        clear ra rb
        go_wp2_with (at_builtin; refine wpList_append_ints _ rfl _ _ 27 rfl ga 5 .u8 1 Tryz.underlying27 info_u8 _ _ rfl oa w.heap.size A2 n2 c2 ys rfl ti (by rw [HTA.out, HB.out]; omega) (by omega) (by omega) ?_; intro v3 w3 o3 g3 at3)
        have b3 : Below w.heap.size w w3 := bk.grown g3 bk.size (fun r e => by have : some ga = some r := e; cases this; omega)
        have ob3 := ob.kept g3 (.inr (fun e => by have e : some gb = some ga := e; injection e with e; omega))
        have ro3 := ro.grown g3 (fun e => by have e : some w.heap.size = some ga := e; injection e with e; omega)
        obtain ⟨A3, c3, rfl, _, _, i3⟩ := o3.form
        have HL3 := Lib.hid (show (turned 54 (blk zs) ++ ys).length = 64 + n2 by rw [List.length_append, HTA.out, HB.out, h2.1])
        rw [HL3.out] at i3 ⊢
        have lg3 := g3.size
        clear oa o3 g3 at3 ob ro ti bk
        go_wp2_with fail
        refine (rsum_any _ A3 (64 + n2) c3 (turned 54 (blk zs) ++ ys) _ i3 (Nat.le_refl _) (by omega)).mono ?_
        rintro e w4 ⟨rfl, hb4⟩
        have b4 := b3.trans (hb4.mono b3.size)
        have ob4 := ob3.below hb4
        have ro4 := ro3.below hb4 ro3.lt
        have lg4 := hb4.size
        obtain ⟨msg, hmsg⟩ : ∃ msg, Sum.sha (turned 54 (blk zs) ++ ys) = msg := ⟨_, rfl⟩
        have hml : msg.length = 32 := by rw [← hmsg]; exact sha_length _
        have hmb : Bs msg := by rw [← hmsg]; exact sha_bytes _
        rw [hmsg]
        have HTG := Lib.hid (show tag zs ys = Sum.sha (turned 92 (blk zs) ++ msg) by unfold tag; rw [hmsg])
        have HML := Lib.hid hml
        clear b3 ob3 ro3 hb4 i3 hmsg hml
        have hslM := fun W g => run_slice_arr_all (P := Tryz.prog) 22 5 32 g W Tryz.underlying22 (by kernel_rfl) (by omega)
        go_wp2_with (first
          | (refine wpList_alloc_Row (w := w4) rfl 22 rfl .u8 32 zero_32 ?_; intro w5 r5 g5 z5)
          | (refine wpList_store_RowTo (w := w5) rfl 22 _ _ rfl w4.heap.size rfl 22 .u8 _ msg rfl r5 32 info_32 HML.out (by simp) (fun z hz => wf_of_byte (hmb z hz)) ?_; intro w6 r6 g6 z6; have i6 := r6.ints (n := 32) (by rw [HML.out]; omega); rw [List.take_of_length_le (by rw [HML.out]; omega)] at i6; have ob6 := (ob4.kept g5 (.inr (fun e => by cases e))).kept g6 (.inr (fun e => by have e : some gb = some w4.heap.size := e; injection e with e; omega)); have ro6 := (ro4.grown g5 (by simp)).grown g6 (fun e => by have e : some w.heap.size = some w4.heap.size := e; injection e with e; omega))
          | (at_builtin; refine wpList_append_ints (w := w6) rfl _ _ 27 rfl gb 5 .u8 1 Tryz.underlying27 info_u8 _ _ rfl ob6 w6.heap.size (some ⟨w4.heap.size, 0, none⟩) 32 32 msg rfl i6 (by rw [HTB.out, HB.out]; omega) (by omega) (by have := g5.size; have := g6.size; omega) ?_; intro v8 w8 o8 g8 at8))
        have b6 : Below w.heap.size w w6 := (b4.grown g5 b4.size (by simp)).grown g6 (by have := g5.size; have := b4.size; omega) (fun r e => by have := b4.size; cases e; omega)
        have b8 : Below w.heap.size w w8 := b6.grown g8 b6.size (fun r e => by have : some gb = some r := e; cases this; omega)
        have ro8 := ro6.grown g8 (fun e => by have e : some w.heap.size = some gb := e; injection e with e; omega)
        obtain ⟨A8, c8, rfl, _, _, i8⟩ := o8.form
        have HL8 := Lib.hid (show (turned 92 (blk zs) ++ msg).length = 96 by rw [List.length_append, HTB.out, HB.out, HML.out])
        rw [HL8.out] at i8 ⊢
        clear o8 g8 at8 ro6 ob6 b6 ro4 ob4 b4
        go_wp2_with fail
        refine (rsum_any _ A8 96 c8 (turned 92 (blk zs) ++ msg) _ i8 (Nat.le_refl _) (by omega)).mono ?_
        rintro e w9 ⟨rfl, hb9⟩
        have b9 := b8.trans (hb9.mono b8.size)
        have r9 := ro8.below hb9 ro8.lt
        rw [← HTG.out]
        have HTL := Lib.hid (tag_length zs ys)
        go_wp2_with (refine wpList_store_RowTo (w := w9) rfl 22 _ _ rfl w.heap.size rfl 22 .u8 _ (tag zs ys) rfl r9 32 info_32 HTL.out (by simp) (fun z hz => wf_of_byte (tag_bytes _ _ z hz)) ?_; intro w10 r10 g10 z10)
        exact bodyPost_ret (results_Row rfl _ _ w.heap.size _ _ _ rfl r10 32 5 Tryz.underlying22 info_32 HTL.out) rfl ⟨rfl, b9.grown g10 b9.size (fun r e => by cases e; exact Nat.le_refl _)⟩
  · have hbig' : ¬ (64 : Int) < (n : Int) := by omega
    have HF := Lib.hid (show fit zs = zs by unfold fit; rw [if_neg (by omega)])
    clear hL
    go_enter Tryz.func97, Tryz.ntmps97
    go_wp2_with (first
      | (refine wpList_alloc_Row (w := w) rfl 22 rfl .u8 32 zero_32 ?_; intro w3 rX g3 z3; have bX : Below w.heap.size w w3 := (Below.refl _ w).grown g3 (Nat.le_refl _) (by simp); have iX := (h.below (bX.mono hB)).more (show B ≤ w3.heap.size by have := g3.size; omega); rw [← HF.out] at iX)
      | (refine wpList_make_Row (w := w3) rfl _ _ 27 rfl 5 .u8 1 Tryz.underlying27 info_u8 .i64 .i64 _ _ 64 rfl rfl (by omega) (by omega) (by omega) (by omega) ?_; intro w6 r6 g6 z6; replace z6 := Lib.hid z6)
      | (refine wpList_make_Row (w := w6) rfl _ _ 27 rfl 5 .u8 1 Tryz.underlying27 info_u8 .i64 .i64 _ _ 64 rfl rfl (by omega) (by omega) (by omega) (by omega) ?_; intro w7 r7 g7 z7; replace z7 := Lib.hid z7))
    have lX := rX.lt
    have HNX := Lib.hid iX.1
    have b7 : Below w.heap.size w w7 := (bX.grown g6 bX.size (by simp)).grown g7 (by have := g6.size; have := bX.size; omega) (by simp)
    have r67 := r6.grown g7 (by simp)
    have rX7 := (rX.grown g6 (by simp)).grown g7 (by simp)
    have iX7 : Ints w7 .u8 w3.heap.size A n (fit zs) := (iX.keep fun p hp => World.cell?_of_block (g6.block _ hp (by simp))).keep fun p hp => World.cell?_of_block (g7.block _ (by have := g6.size; omega) (by simp))
    have sX := bX.size
    have l67 := r6.lt
    obtain ⟨ga, hga⟩ : ∃ ga, w3.heap.size = ga := ⟨_, rfl⟩
    obtain ⟨gb, hgb⟩ : ∃ gb, w6.heap.size = gb := ⟨_, rfl⟩
    rw [hga] at r67 iX7 l67 lX sX
    rw [hgb] at l67 r7
    rw [hga, hgb]
    clear r6 g6 g7 z6 z7 iX rX bX hga hgb
    go_loopw [8] (fun i wr => ∃ k : Nat, k ≤ 64 ∧ i = .int .i64 k ∧ Row wr ga 5 .u8 (upto 54 (blk zs) k) ∧ Row wr gb 5 .u8 (upto 92 (blk zs) k) ∧ Row wr w.heap.size 22 .u8 (List.replicate 32 0) ∧ Ints wr .u8 ga A n (fit zs) ∧ Below w.heap.size w wr) (fun i _ => 64 - (intOf i).toNat)
    case atStart => exact ⟨0, by omega, rfl, by rw [upto_start _ _ HB.out]; exact r67, by rw [upto_start _ _ HB.out]; exact r7, rX7, iX7, b7⟩
    case round =>
      clear r67 r7 rX7 iX7 b7
      obtain ⟨k, hk, rfl, ra, rb, ro, ix, bk⟩ := hrel
      by_cases hlt : k < 64
      · obtain ⟨oo, hka⟩ : ∃ oo, wr.cell? ⟨ga, k, none⟩ = some oo := ⟨_, ra.cell (i := k) (by rw [upto_length _ _ _ HB.out (by omega)]; omega)⟩
        have hfa := ra.frozen k
        have hfb := rb.frozen k
        have hlt' : (k : Int) < 64 := by omega
        have hk0 : (0 : Int) ≤ (k : Int) := by omega
        obtain ⟨x, hx⟩ : ∃ x, (blk zs).getD k 0 = x := ⟨_, rfl⟩
        have HSA := Lib.hid (upto_set 54 (blk zs) (k := k) HB.out hlt)
        have HSB := Lib.hid (upto_set 92 (blk zs) (k := k) HB.out hlt)
        rw [hx] at HSA HSB
        have sa : Hid (Row (wr.setCell ⟨ga, k, none⟩ (.int .u8 (flip 54 x))) ga 5 .u8 (upto 54 (blk zs) (k + 1))) := Lib.hid (by rw [← HSA.out]; exact ra.set k (flip_wf _ _))
        have sb : Hid (Row ((wr.setCell ⟨ga, k, none⟩ (.int .u8 (flip 54 x))).setCell ⟨gb, k, none⟩ (.int .u8 (flip 92 x))) gb 5 .u8 (upto 92 (blk zs) (k + 1))) := Lib.hid (by rw [← HSB.out]; exact (rb.other (by simpa using (by omega : ga ≠ gb)) _).set k (flip_wf _ _))
        have hfb2 : (wr.setCell ⟨ga, k, none⟩ (.int .u8 (flip 54 x))).frozen? ⟨gb, k, none⟩ = false := (rb.other (by simpa using (by omega : ga ≠ gb)) _).frozen k
        obtain ⟨ob, hkb2⟩ : ∃ ob, (wr.setCell ⟨ga, k, none⟩ (.int .u8 (flip 54 x))).cell? ⟨gb, k, none⟩ = some ob := ⟨_, (rb.other (by simpa using (by omega : ga ≠ gb)) (.int .u8 (flip 54 x))).cell (i := k) (by rw [upto_length _ _ _ HB.out (by omega)]; omega)⟩
        unfold flip at sa sb hfb2 hkb2
        by_cases hkn : k < n
        · obtain ⟨b, off, eA, hbl, hcc⟩ := ix.at_ hkn
          have hxv : (fit zs).getD k 0 = x := by rw [← hx]; exact (blk_get_lt zs (by rw [HNX.out]; exact hkn)).symm
          rw [hxv] at hcc
          have hkn' : (k : Int) < (n : Int) := by omega
          subst eA
          clear hx hxv
          go_wp2_with fail
          go_roundw
          case rel => exact ⟨k + 1, by omega, by go_num, sa.out.other (by simpa using (by omega : gb ≠ ga)) _, sb.out, (ro.other (by simpa using (by omega : ga ≠ w.heap.size)) _).other (by simpa using (by omega : gb ≠ w.heap.size)) _, (ix.setCell (by simp) _).setCell (by simp; omega) _, (bk.setCell (by simp; omega) _).setCell (by simp; omega) _⟩
          case measure => simp [intOf]; omega
        · have hx0 : x = 0 := by rw [← hx]; exact blk_get_ge zs (by rw [HNX.out]; omega)
          have hkn' : ¬ (k : Int) < (n : Int) := by omega
          subst hx0
          clear hx
          go_wp2_with fail
          go_roundw
          case rel => exact ⟨k + 1, by omega, by go_num, sa.out.other (by simpa using (by omega : gb ≠ ga)) _, sb.out, (ro.other (by simpa using (by omega : ga ≠ w.heap.size)) _).other (by simpa using (by omega : gb ≠ w.heap.size)) _, (ix.setCell (by simp) _).setCell (by simp; omega) _, (bk.setCell (by simp; omega) _).setCell (by simp; omega) _⟩
          case measure => simp [intOf]; omega
      · have hk64 : k = 64 := by omega
        subst hk64
        rw [upto_end _ _ HB.out] at ra rb
        clear ix
        have oa := ra.own (base := ga) (Nat.le_refl _) (n := 64) (by rw [turned_length, HB.out]; omega) (by rw [turned_length, HB.out]; simp [maxLen])
        have ob := rb.own (base := gb) (Nat.le_refl _) (n := 64) (by rw [turned_length, HB.out]; omega) (by rw [turned_length, HB.out]; simp [maxLen])
        rw [turned_length, HB.out, List.take_of_length_le (by rw [turned_length, HB.out]; omega)] at oa ob
        have HTA := Lib.hid (turned_length 54 (blk zs))
        have HTB := Lib.hid (turned_length 92 (blk zs))
        have lgb := rb.lt
        have ti := h2.below bk
        clear ra rb
        go_wp2_with (at_builtin; refine wpList_append_ints _ rfl _ _ 27 rfl ga 5 .u8 1 Tryz.underlying27 info_u8 _ _ rfl oa w.heap.size A2 n2 c2 ys rfl ti (by rw [HTA.out, HB.out]; omega) (by omega) (by omega) ?_; intro v3 w3 o3 g3 at3)
        have b3 : Below w.heap.size w w3 := bk.grown g3 bk.size (fun r e => by have : some ga = some r := e; cases this; omega)
        have ob3 := ob.kept g3 (.inr (fun e => by have e : some gb = some ga := e; injection e with e; omega))
        have ro3 := ro.grown g3 (fun e => by have e : some w.heap.size = some ga := e; injection e with e; omega)
        obtain ⟨A3, c3, rfl, _, _, i3⟩ := o3.form
        have HL3 := Lib.hid (show (turned 54 (blk zs) ++ ys).length = 64 + n2 by rw [List.length_append, HTA.out, HB.out, h2.1])
        rw [HL3.out] at i3 ⊢
        have lg3 := g3.size
        clear oa o3 g3 at3 ob ro ti bk
        go_wp2_with fail
        refine (rsum_any _ A3 (64 + n2) c3 (turned 54 (blk zs) ++ ys) _ i3 (Nat.le_refl _) (by omega)).mono ?_
        rintro e w4 ⟨rfl, hb4⟩
        have b4 := b3.trans (hb4.mono b3.size)
        have ob4 := ob3.below hb4
        have ro4 := ro3.below hb4 ro3.lt
        have lg4 := hb4.size
        obtain ⟨msg, hmsg⟩ : ∃ msg, Sum.sha (turned 54 (blk zs) ++ ys) = msg := ⟨_, rfl⟩
        have hml : msg.length = 32 := by rw [← hmsg]; exact sha_length _
        have hmb : Bs msg := by rw [← hmsg]; exact sha_bytes _
        rw [hmsg]
        have HTG := Lib.hid (show tag zs ys = Sum.sha (turned 92 (blk zs) ++ msg) by unfold tag; rw [hmsg])
        have HML := Lib.hid hml
        clear b3 ob3 ro3 hb4 i3 hmsg hml
        have hslM := fun W g => run_slice_arr_all (P := Tryz.prog) 22 5 32 g W Tryz.underlying22 (by kernel_rfl) (by omega)
        go_wp2_with (first
          | (refine wpList_alloc_Row (w := w4) rfl 22 rfl .u8 32 zero_32 ?_; intro w5 r5 g5 z5)
          | (refine wpList_store_RowTo (w := w5) rfl 22 _ _ rfl w4.heap.size rfl 22 .u8 _ msg rfl r5 32 info_32 HML.out (by simp) (fun z hz => wf_of_byte (hmb z hz)) ?_; intro w6 r6 g6 z6; have i6 := r6.ints (n := 32) (by rw [HML.out]; omega); rw [List.take_of_length_le (by rw [HML.out]; omega)] at i6; have ob6 := (ob4.kept g5 (.inr (fun e => by cases e))).kept g6 (.inr (fun e => by have e : some gb = some w4.heap.size := e; injection e with e; omega)); have ro6 := (ro4.grown g5 (by simp)).grown g6 (fun e => by have e : some w.heap.size = some w4.heap.size := e; injection e with e; omega))
          | (at_builtin; refine wpList_append_ints (w := w6) rfl _ _ 27 rfl gb 5 .u8 1 Tryz.underlying27 info_u8 _ _ rfl ob6 w6.heap.size (some ⟨w4.heap.size, 0, none⟩) 32 32 msg rfl i6 (by rw [HTB.out, HB.out]; omega) (by omega) (by have := g5.size; have := g6.size; omega) ?_; intro v8 w8 o8 g8 at8))
        have b6 : Below w.heap.size w w6 := (b4.grown g5 b4.size (by simp)).grown g6 (by have := g5.size; have := b4.size; omega) (fun r e => by have := b4.size; cases e; omega)
        have b8 : Below w.heap.size w w8 := b6.grown g8 b6.size (fun r e => by have : some gb = some r := e; cases this; omega)
        have ro8 := ro6.grown g8 (fun e => by have e : some w.heap.size = some gb := e; injection e with e; omega)
        obtain ⟨A8, c8, rfl, _, _, i8⟩ := o8.form
        have HL8 := Lib.hid (show (turned 92 (blk zs) ++ msg).length = 96 by rw [List.length_append, HTB.out, HB.out, HML.out])
        rw [HL8.out] at i8 ⊢
        clear o8 g8 at8 ro6 ob6 b6 ro4 ob4 b4
        go_wp2_with fail
        refine (rsum_any _ A8 96 c8 (turned 92 (blk zs) ++ msg) _ i8 (Nat.le_refl _) (by omega)).mono ?_
        rintro e w9 ⟨rfl, hb9⟩
        have b9 := b8.trans (hb9.mono b8.size)
        have r9 := ro8.below hb9 ro8.lt
        rw [← HTG.out]
        have HTL := Lib.hid (tag_length zs ys)
        go_wp2_with (refine wpList_store_RowTo (w := w9) rfl 22 _ _ rfl w.heap.size rfl 22 .u8 _ (tag zs ys) rfl r9 32 info_32 HTL.out (by simp) (fun z hz => wf_of_byte (tag_bytes _ _ z hz)) ?_; intro w10 r10 g10 z10)
        exact bodyPost_ret (results_Row rfl _ _ w.heap.size _ _ _ rfl r10 32 5 Tryz.underlying22 info_32 HTL.out) rfl ⟨rfl, b9.grown g10 b9.size (fun r e => by cases e; exact Nat.le_refl _)⟩
end Go.Proofs.YtjelacblnjbfgaaGreatDoor.Mac
namespace Go.Proofs.YtjelacblnjbfgaaGreatDoor.Held
open Go.RowKit Mem
section
variable {P : Program} {S : World → Prop} {ρ : Operand → Value} {o : Oper}
theorem y_text {src dst e : TypeId} {x : Operand} {B : Nat} {A : Option Addr} {n c : Nat} {zs : List Int} (ho : o.op = .convert src dst x) (hx : ρ x = .slice A n c) (hs : P.underlying src = some (.slice e)) (he : P.underlying e = some (.int .u8)) (hd : P.underlying dst = some .string)
    (hi : ∀ w, S w → Ints w .u8 B A n zs) : ∀ w, S w → (execOp ρ o).run P w = .ok (.value (.string (strOfNums zs))) w := fun w hw => by
  simp [execOp, ho, hx, run_text w src dst e hs he hd B A n c zs (hi w hw)]
theorem y_eqi {t ty : TypeId} {x y : Operand} {k : IntKind} {a : Int} (ho : o.op = .binOp .eql t x y ty) (hx : ρ x = .int k a) (hy : ρ y = .int k a) :
    ∀ w, S w → (execOp ρ o).run P w = .ok (.value (.bool true)) w := y_bin ho hx hy (fun w => by simp [eqGuard]) (fun w => by simp [binOp, Op.intCmp])
theorem y_eqn {t ty : TypeId} {x y : Operand} {k : IntKind} {a b : Int} (ho : o.op = .binOp .eql t x y ty) (hx : ρ x = .int k a) (hy : ρ y = .int k b) (hab : a ≠ b) :
    ∀ w, S w → (execOp ρ o).run P w = .ok (.value (.bool false)) w := y_bin ho hx hy (fun w => by simp [eqGuard]) (fun w => by simp [binOp, Op.intCmp, hab])
end
section
variable {P : Program} {S : World → Prop} {ρ : Operand → Value} {o : Oper}
theorem y_not {x : Operand} {b r : Bool} {t : TypeId} (ho : o.op = .unOp .not t x) (hx : ρ x = .bool b) (hr : (!b) = r) : ∀ w, S w → (execOp ρ o).run P w = .ok (.value (.bool r)) w := fun w _ => by subst hr; simp [execOp, ho, hx, Op.unary]
end
section
variable {P : Program} {ops : Array Oper} {Q : Exit → Act → World → Prop} {md : Region.Mode} {S : World → Prop}
theorem skip (i : Nat) (d : Option Tmp) {oi : Oper} {fuel : Nat} {listed : Array Bool} {a : Act} {w : World} (hi : ops[i]? = some oi) (hd : oi.dst = d)
    (hs : Region.noSelect ops = true) (hf : Region.free md ops listed i = true) (hr : (Region.ready md ops listed).contains i = true)
    (hQ : ∀ c a w, Q (.panic c) (a.put d undef) w → Q (.panic c) a w) (hw : Region.wanted oi (yielded ops a.tmps) = false) (hS : S w)
    (h : wpAnyH P md ops Q S fuel (listed.setIfInBounds i true) (a.put d undef) w) : wpAnyH P md ops Q S (fuel + 1) listed a w := by
  subst hd
  exact wpAnyH_take hi hs hf hr hQ (.inr ⟨hw, rfl⟩) hS h
end
theorem wpList_build_row {P : Program} {ops : Array Oper} {rest : List Oper} {o : Oper} {a : Act} {w : World} {Q : Exit → Act → World → Prop} (hgd : o.guard = none) (t e : TypeId) (len : Nat) (parts : Array (Nat × Operand)) (ho : o.op = .buildSlice t len parts) (k : IntKind) (bytes : Nat) (zs : List Int)
    (hu : P.underlying t = some (.slice e)) (hinfo : (P.info? e).map (fun i => (i.zero, i.size, i.bytes)) = some (some (.int k 0), 1, bytes)) (hp : (parts.map fun (i, x) => (i, a.eval x)).toList = ((zs.map (Value.int k)).zipIdx 0).map fun x => (x.2, x.1))
    (hl : zs.length = len) (h0 : 0 < len) (hlen : len ≤ 1000) (hwf : ∀ z ∈ zs, (Lit.int k z).wf = true)
    (h : ∀ w', Row w' w.heap.size e k zs → w.grownBy w' none → Hid (w'.heap.size = w.heap.size + 1) → wpList P ops Q rest (a.put o.dst (.slice (some ⟨w.heap.size, 0, none⟩) len len)) w') : wpList P ops Q (o :: rest) a w := by
  refine wpList_plain hgd fun K hK => ?_
  obtain ⟨ie, hie, hz, hsz, _⟩ := info_parts hinfo
  have hl' : (zs.map (Value.int k)).length = len := by simpa using hl
  have h' := hK _ _ (h _ (Row.new w e hwf) (World.grownBy_alloc w _ none) (Lib.hid (by simp)))
  unfold arr at h'
  have h1 : ∀ v ∈ zs.map (Value.int k), v.cells = #[v] := by intro v hv; obtain ⟨z, _, rfl⟩ := List.mem_map.1 hv; rfl
  generalize zs.map (Value.int k) = vs at hp hl' h' h1
  subst hl'
  refine Go.wp_buildSlice t e vs.length parts ho vs.toArray ie (.int k 0) hu hie hz (by rw [hsz]; omega) (by rw [hsz]; omega) ?_ h'
  rw [hp]
  simp only [hsz]
  exact Go.Great.fill_flat vs _ h1 (by simp)
end Go.Proofs.YtjelacblnjbfgaaGreatDoor.Held
namespace Go.Proofs.YtjelacblnjbfgaaGreatDoor.Held
open Go.RowKit Mem
section
variable {P : Program} {ops : Array Oper} {Q : Exit → Act → World → Prop}
theorem op_append_ints (i : Nat) (d : Option Tmp) {o : Oper} {a : Act} {w : World} {K : Act → World → Prop} {s x : Operand} (ts : TypeId) (hi : ops[i]? = some o) (hd : o.dst = d) (hw : Region.wanted o (yielded ops a.tmps) = true)
    (ho : o.op = .call { callee := .builtin .append, args := #[s, x], argTypes := #[ts, ts] }) (base : Nat) (e : TypeId) (k : IntKind) (bytes : Nat) (ht : P.underlying ts = some (.slice e))
    (hinfo : (P.info? e).map (fun i => (i.zero, i.size, i.bytes)) = some (some (.int k 0), 1, bytes)) (v : Value) (zs : List Int) (hs : a.eval s = v) (hown : Mem.Own w base e k v zs)
    (B : Nat) (A : Option Addr) (m c : Nat) (xs : List Int) (hx : a.eval x = .slice A m c) (hr : Ints w k B A m xs) (hlen : zs.length + m ≤ 17592186044416) (hby : bytes ≤ 8) (hbase : base ≤ w.heap.size)
    (h : ∀ A' n' c' w', Mem.Own w' base e k (.slice A' n' c') (zs ++ xs) → w.grownBy w' v.ownBlock → n' ≤ c' → c' ≤ maxLen → Hid ((zs ++ xs).length = n') → Ints w' k w'.heap.size A' n' (zs ++ xs) → K (a.put d (.slice A' n' c')) w') : wpOp P ops Q i K a w := by
  subst hd
  refine op_wp i hi hw ?_
  obtain ⟨v', w', hrun, h2, h3, _⟩ := run_append_ints (P := P) w base ts o.type e k bytes ht hinfo v zs hown B A m c xs hr hlen hby hbase
  obtain ⟨A', c', rfl, h4, h5, h6⟩ := h2.form
  exact Lib.wp_append_run w s x ts ts ho _ _ hs hx _ w' hrun (h _ _ _ w' h2 h3 h4 h5 (Lib.hid rfl) h6)
end
section
variable {P : Program} {S : World → Prop} {ρ : Operand → Value} {o : Oper}
theorem y_nes {t ty : TypeId} {x y : Operand} {s : ByteArray} (ho : o.op = .binOp .neq t x y ty) (hx : ρ x = .string s) (hy : ρ y = .string s) :
    ∀ w, S w → (execOp ρ o).run P w = .ok (.value (.bool false)) w := y_bin ho hx hy (fun w => by simp [eqGuard]) (fun w => by simp [binOp, Op.stringOp])
end
end Go.Proofs.YtjelacblnjbfgaaGreatDoor.Held
namespace Go.Proofs.YtjelacblnjbfgaaGreatDoor.Held
open Go.RowKit Mem
section
variable {P : Program} {ops : Array Oper} {Q : Exit → Act → World → Prop}
theorem op_build_Row (i : Nat) (d : Option Tmp) {o : Oper} {a : Act} {w : World} {K : Act → World → Prop} (t e : TypeId) (len : Nat) {parts : Array (Nat × Operand)} (k : IntKind) (bytes : Nat) (zs : List Int) (hi : ops[i]? = some o) (hd : o.dst = d) (hw : Region.wanted o (yielded ops a.tmps) = true)
    (ho : o.op = .buildSlice t len parts) (hu : P.underlying t = some (.slice e)) (hinfo : (P.info? e).map (fun i => (i.zero, i.size, i.bytes)) = some (some (.int k 0), 1, bytes))
    (hp : (parts.map fun (i, x) => (i, a.eval x)).toList = ((zs.map (Value.int k)).zipIdx 0).map fun x => (x.2, x.1)) (hl : zs.length = len) (h0 : 0 < len) (hlen : len ≤ 1000) (hwf : ∀ z ∈ zs, (Lit.int k z).wf = true)
    (h : ∀ p w', Row w' p e k zs → Below w.heap.size w w' → Hid (w.heap.size ≤ p) → K (a.put d (.slice (some ⟨p, 0, none⟩) len len)) w') : wpOp P ops Q i K a w := by
  subst hd
  refine op_wp i hi hw ?_
  obtain ⟨ie, hie, hz, hsz, _⟩ := info_parts hinfo
  have hl' : (zs.map (Value.int k)).length = len := by simpa using hl
  have h' := h w.heap.size _ (Row.new w e hwf) ((Below.refl _ w).alloc (Nat.le_refl _) _) (Lib.hid (Nat.le_refl _))
  unfold arr at h'
  have h1 : ∀ v ∈ zs.map (Value.int k), v.cells = #[v] := by intro v hv; obtain ⟨z, _, rfl⟩ := List.mem_map.1 hv; rfl
  generalize zs.map (Value.int k) = vs at hp hl' h' h1
  subst hl'
  refine Go.wp_buildSlice t e vs.length parts ho vs.toArray ie (.int k 0) hu hie hz (by rw [hsz]; omega) (by rw [hsz]; omega) ?_ h'
  rw [hp]
  simp only [hsz]
  exact Go.Great.fill_flat vs _ h1 (by simp)
end
end Go.Proofs.YtjelacblnjbfgaaGreatDoor.Held
namespace Go.Proofs.YtjelacblnjbfgaaGreatDoor.Mem
open Go.RowKit
def Flat (A : Option Addr) (cap : Nat) : Prop := cap = 0 ∨ A = none ∨ ∃ b off, A = some ⟨b, off, none⟩
theorem Flat.head (b off cap : Nat) : Flat (some ⟨b, off, none⟩) cap := .inr (.inr ⟨b, off, rfl⟩)
section
variable {P : Program} {t e : TypeId} {A : Option Addr} {n cap : Nat}
theorem run_front (ht : P.underlying t = some (.slice e)) (hs : (P.info? e).map (·.size) = some 1) (hf : Flat A cap) {h : Nat} (hh : h ≤ cap) (w : World) :
    (Instr.sliceAt t (.slice A n cap) none (some (.int .i64 (h : Int))) none).run P w = .ok (.slice A h cap) w := by
  have he : P.elem t = e := by simp [Program.elem, ht]
  have ht' : P.underlying t = some (.slice (P.elem t)) := by rw [he]; exact ht
  obtain ⟨inf, hi, h1⟩ := Option.map_eq_some_iff.1 hs
  rw [run_sliceAt_slice w t _ _ _ _ ht', run_slice_h w t A n cap ht' .i64 _ (by omega) (by omega), he]
  have hz : (sizeOf e).run P w = .ok 1 w := by simp [sizeOf, typeInfo, hi, h1]
  rw [hz]
  simp only [Result.andThen, sliced, Nat.mul_one, Nat.sub_zero, Int.toNat_natCast]
  congr 2
  split
  · rfl
  · rcases hf with h0 | rfl | ⟨b, off, rfl⟩
    · exact absurd h0 ‹_›
    · rfl
    · simp [Addr.add]
theorem run_back (ht : P.underlying t = some (.slice e)) (hs : (P.info? e).map (·.size) = some 1) (hf : Flat A cap) (hc : n ≤ cap) {l : Nat} (hl : l ≤ n) {wi : World} {k : IntKind} {B : Nat} {zs : List Int} (h : Ints wi k B A n zs) :
    ∃ A', (∀ w, (Instr.sliceAt t (.slice A n cap) (some (.int .i64 (l : Int))) none none).run P w = .ok (.slice A' (n - l) (cap - l)) w) ∧ Flat A' (cap - l) ∧ Ints wi k B A' (n - l) (zs.drop l) := by
  have he : P.elem t = e := by simp [Program.elem, ht]
  have ht' : P.underlying t = some (.slice (P.elem t)) := by rw [he]; exact ht
  obtain ⟨inf, hi, h1⟩ := Option.map_eq_some_iff.1 hs
  refine ⟨if cap = l then A else A.map (·.add l), fun w => ?_, ?_, ?_⟩
  · rw [run_sliceAt_slice w t _ _ _ _ ht', run_slice_l w t A n cap ht' .i64 _ (by omega) (by omega), he]
    have hz : (sizeOf e).run P w = .ok 1 w := by simp [sizeOf, typeInfo, hi, h1]
    rw [hz]
    simp only [Result.andThen, sliced, Nat.mul_one, Int.toNat_natCast]
  · by_cases q : cap = l
    · exact .inl (by omega)
    · rw [if_neg q]
      rcases hf with h0 | rfl | ⟨b, off, rfl⟩
      · omega
      · exact .inr (.inl rfl)
      · exact .inr (.inr ⟨b, off + l, by simp [Addr.add]⟩)
  · refine ⟨by rw [List.length_drop, h.1], fun z hz => h.2.1 z (List.mem_of_mem_drop hz), fun h0 => ?_⟩
    obtain ⟨b, off, rfl, hb, hcell⟩ := h.2.2 (by omega)
    rw [if_neg (by omega)]
    refine ⟨b, off + l, by simp [Addr.add], hb, fun i hi => ?_⟩
    have := hcell (l + i) (by omega)
    rw [← Nat.add_assoc] at this
    rw [this]
    simp [List.getD_eq_getElem?_getD, List.getElem?_drop]
end
theorem Ints.front {w : World} {k : IntKind} {B n h : Nat} {A : Option Addr} {zs : List Int} (hi : Ints w k B A n zs) (hh : h ≤ n) : Ints w k B A h (zs.take h) := by
  refine ⟨by rw [List.length_take, hi.1]; omega, fun z hz => hi.2.1 z (List.mem_of_mem_take hz), fun h0 => ?_⟩
  obtain ⟨b, off, rfl, hb, hc⟩ := hi.2.2 (by omega)
  refine ⟨b, off, rfl, hb, fun i hi' => ?_⟩
  rw [hc i (by omega)]
  simp [List.getD_eq_getElem?_getD, hi']
theorem Own.flat {w : World} {base : Nat} {t : TypeId} {k : IntKind} {A : Option Addr} {n c : Nat} {zs : List Int} (h : Own w base t k (.slice A n c) zs) : Flat A c := by
  rcases h.2.2 with ⟨hv, _⟩ | ⟨g, cap, cur, hv, _⟩
  · injection hv with e1; exact .inr (.inl e1)
  · injection hv with e1; exact .inr (.inr ⟨g, 0, e1⟩)
end Go.Proofs.YtjelacblnjbfgaaGreatDoor.Mem
namespace Go.Proofs.YtjelacblnjbfgaaGreatDoor.Hkdf
open Go.RowKit Go.Shelf Go.Proofs.YtjelacblnjbfgaaGreatDoor Mem Help Go.Proofs.YtjelacblnjbfgaaGreatDoor.Sum Sha Mac
attribute [local irreducible] wpList Calls
set_option maxRecDepth 100000 in
set_option maxHeartbeats 1000000 in
theorem rextract_any (B B' : Nat) (A A' : Option Addr) (n c n' c' : Nat) (salt key : List Int) (w : World) (h : Ints w .u8 B A n salt) (hB : B ≤ w.heap.size) (hn : n ≤ 274877906944)
    (h' : Ints w .u8 B' A' n' key) (hB' : B' ≤ w.heap.size) (hn' : n' ≤ 274877906944) :
    Calls Tryz.prog 68 #[.slice A n c, .slice A' n' c'] w fun e w' => e = .returned (.agg (arr .u8 (tag salt key))) ∧ Below w.heap.size w w' := by
  go_enter Tryz.func68, Tryz.ntmps68
  go_wp2_with (refine wpList_alloc_Row rfl 22 rfl .u8 32 zero_32 ?_; intro w1 r1 g1 z1)
  have b1 : Below w.heap.size w w1 := (Below.refl _ w).grown g1 (Nat.le_refl _) (by simp)
  have l1 := r1.lt
  refine (rtag_any B B' A A' n c n' c' salt key w1 (h.below (b1.mono hB)) (by omega) (by omega) (h'.below (b1.mono hB')) (by omega) (by omega)).mono ?_
  rintro e w2 ⟨rfl, hb2⟩
  have b2 := b1.trans (hb2.mono b1.size)
  have r2 := r1.below hb2 l1
  clear hb2 b1 r1 g1 z1
  go_wp2_with (refine wpList_store_RowTo rfl 22 _ _ rfl w.heap.size rfl 22 .u8 _ (tag salt key) rfl r2 32 info_32 (tag_length _ _) (by simp) (tag_wf _ _) ?_; intro w3 r3 g3 z3)
  exact bodyPost_ret (results_Row rfl _ _ w.heap.size _ _ _ rfl r3 32 5 Tryz.underlying22 info_32 (tag_length _ _)) rfl ⟨rfl, b2.grown g3 b2.size (fun r e => by cases e; exact Nat.le_refl _)⟩
set_option maxRecDepth 100000 in
set_option maxHeartbeats 8000000 in
theorem rexpand_any (key info : List Int) (hk : key.length = 32) (hkb : ∀ z ∈ key, (Lit.int .u8 z).wf = true) (B : Nat) (A : Option Addr) (m c n : Nat) (w : World) (hi : Ints w .u8 B A m info) (hB : B ≤ w.heap.size) (hm : m ≤ 274877906944) (hn1 : 1 ≤ n) (hn2 : n ≤ 8160) :
    Calls Tryz.prog 67 #[.agg (arr .u8 key), .slice A m c, .int .i64 (n : Int)] w fun e w' => ∃ A' c', e = .returned (.tuple #[.slice A' n c', .int .i64 0]) ∧ n ≤ c' ∧ c' ≤ maxLen ∧ Ints w' .u8 w'.heap.size A' n (out key info n) ∧ Below w.heap.size w w' := by
  have HK := Lib.hid hk
  have HM := Lib.hid hi.1
  clear hk
  have q1 : ¬ (n : Int) < 1 := by omega
  have q2 : ¬ (8160 : Int) < (n : Int) := by omega
  go_enter Tryz.func67, Tryz.ntmps67
  go_wp2_with (refine wpList_box_Row rfl 22 _ rfl .u8 key rfl hkb ?_; intro w1 r1 g1 z1)
  have b1 : Below w.heap.size w w1 := (Below.refl _ w).grown g1 (Nat.le_refl _) (by simp)
  clear g1 z1
  go_loopw [8, 9, 10] (fun u v i wr => ∃ (k q : Nat) (A8 A9 : Option Addr) (c8 n9 c9 : Nat), k ≤ 255 ∧ Hid (q = 32 * k) ∧ q < n + 32 ∧ i = .int .i64 ((k : Int) + 1) ∧ u = .slice A8 q c8 ∧ Mem.Own wr (w.heap.size + 1) 5 .u8 (.slice A8 q c8) (stream key info k) ∧
    v = .slice A9 n9 c9 ∧ n9 ≤ 32 ∧ Ints wr .u8 wr.heap.size A9 n9 (piece key info k) ∧ Row wr w.heap.size 22 .u8 key ∧ Below w.heap.size w wr) (fun _ _ i _ => 256 - (intOf i).toNat)
  case atStart => exact ⟨0, 0, none, none, 0, 0, 0, by omega, Lib.hid rfl, by omega, rfl, rfl, by rw [show stream key info 0 = [] from List.eq_nil_of_length_eq_zero (stream_length key info 0)]; exact Mem.Own.nil _ _ _ _, rfl, by omega, Ints.nil _ _ _ _, r1, b1⟩
  case round =>
    clear r1 b1
    obtain ⟨k, q, A8, A9, c8, n9, c9, hk, hq, hqn, rfl, rfl, o8, rfl, hn9, i9, rk, bk⟩ := hrel
    by_cases hlt : q < n
    · have hlt' : (q : Int) < (n : Int) := by omega
      have hk255 : k < 255 := by have := hq.out; omega
      have hk0 : (0 : Int) ≤ (k : Int) := by omega
      have HI9 := Lib.hid i9.1
      have ii := (hi.below (bk.mono hB)).more (Nat.le_trans hB bk.size)
      have kq := rk.ints (n := 32) (by rw [HK.out]; omega)
      rw [List.take_of_length_le (by rw [HK.out]; omega)] at kq
      have HX := Lib.hid (show tag key ((([] ++ piece key info k) ++ info) ++ [(k : Int) + 1]) = piece key info (k + 1) by simp [piece])
      have hw5 : IntKind.u8.wrap ((k : Int) + 1) = (k : Int) + 1 := by simp [IntKind.wrap, IntKind.bits, IntKind.signed]; omega
      have hw6 : ∀ z ∈ [(k : Int) + 1], (Lit.int .u8 z).wf = true := fun z hz => by rw [List.mem_singleton.1 hz]; exact wf_of_byte (by omega)
      have hsl := fun W g => run_slice_arr_all (P := Tryz.prog) 22 5 32 g W Tryz.underlying22 (by kernel_rfl) (by omega)
      go_wp2_with (first
        | (at_builtin; refine wpList_append_ints wr rfl _ _ 27 rfl wr.heap.size 5 .u8 1 Tryz.underlying27 info_u8 (.slice none 0 0) [] rfl (Mem.Own.nil _ _ _ _) wr.heap.size A9 n9 c9 (piece key info k) rfl i9 (by simp; omega) (by omega) (Nat.le_refl _) ?_; intro v2 w2 o2 g2 t2; obtain ⟨A2, c2, rfl, h2a, h2b, j2⟩ := o2.form; obtain ⟨n2, hn2⟩ : ∃ n2, ([] ++ piece key info k).length = n2 := ⟨_, rfl⟩; rw [hn2] at o2 j2 h2a ⊢; have HN2 := Lib.hid hn2; clear hn2)
        | (at_builtin; refine wpList_append_ints w2 rfl _ _ 27 rfl wr.heap.size 5 .u8 1 Tryz.underlying27 info_u8 (.slice A2 n2 c2) ([] ++ piece key info k) rfl o2 wr.heap.size A m c info rfl (ii.keep fun p hp => World.cell?_of_block (g2.block _ hp (by simp [Value.ownBlock]))) (by rw [HN2.out]; have := HN2.out; rw [List.nil_append, HI9.out] at this; omega) (by omega) g2.size ?_; intro v3 w3 o3 g3 t3; obtain ⟨A3, c3, rfl, h3a, h3b, j3⟩ := o3.form; obtain ⟨n3, hn3⟩ : ∃ n3, (([] ++ piece key info k) ++ info).length = n3 := ⟨_, rfl⟩; rw [hn3] at o3 j3 h3a ⊢; have HN3 := Lib.hid hn3; clear hn3)
        | (refine Held.wpList_build_row (w := w3) rfl 27 5 1 _ rfl .u8 1 [(k : Int) + 1] Tryz.underlying27 info_u8 (by simp [Act.eval]) rfl (by omega) (by omega) hw6 ?_; intro w4 r4 g4 z4; have o34 := o3.kept g4 (by cases (Value.slice A3 n3 c3).ownBlock <;> simp))
        | (at_builtin; refine wpList_append_ints w4 rfl _ _ 27 rfl wr.heap.size 5 .u8 1 Tryz.underlying27 info_u8 (.slice A3 n3 c3) (([] ++ piece key info k) ++ info) rfl o34 w4.heap.size (some ⟨w3.heap.size, 0, none⟩) 1 1 [(k : Int) + 1] rfl (by have := r4.ints (n := 1) (by simp); simpa using this) (by rw [HN3.out]; have := HN3.out; rw [List.length_append, List.nil_append, HI9.out, HM.out] at this; omega) (by omega) (by have := g2.size; have := g3.size; have := g4.size; omega) ?_; intro v5 w5 o5 g5 t5; obtain ⟨A5, c5, rfl, h5a, h5b, j5⟩ := o5.form; obtain ⟨n5, hn5⟩ : ∃ n5, ((([] ++ piece key info k) ++ info) ++ [(k : Int) + 1]).length = n5 := ⟨_, rfl⟩; rw [hn5] at o5 j5 h5a ⊢; have HN5 := Lib.hid hn5; clear hn5))
      have s2 := g2.size
      have s3 := g3.size
      have s4 := g4.size
      have s5 := g5.size
      have d5 : Below wr.heap.size wr w5 := ((((Below.refl _ wr).grown g2 (Nat.le_refl _) (by simp [Value.ownBlock])).grown g3 s2 (fun r e => (o2.2.lt r e).1)).grown g4 (by omega) (by simp)).grown g5 (by omega) (fun r e => (o34.2.lt r e).1)
      have hn5 : n5 ≤ 549755813888 := by have h1 := HN5.out; have h2 := HN3.out; have h3 := HN2.out; rw [List.length_append, h2] at h1; rw [List.length_append, h3, HM.out] at h2; rw [List.nil_append, HI9.out] at h3; simp at h1; omega
      clear g2 g3 g4 g5 t2 t3 t5 o2 o3 o34 o5 r4 z4 j2 j3 h2a h2b h3a h3b h5a h5b s2 s3 s4
      refine (rtag_any _ _ _ A5 32 32 n5 c5 key _ w5 (kq.below d5) d5.size (by omega) j5 (Nat.le_refl _) hn5).mono ?_
      rw [HX.out]
      rintro e w6 ⟨rfl, b6⟩
      have c6 := d5.trans (b6.mono d5.size)
      have HPL := Lib.hid (piece_length key info k)
      have HPW := Lib.hid (piece_wf key info (k + 1))
      have s6 := c6.size
      have lk := rk.lt
      clear d5 b6 j5 HX HN2 HN3 HN5 hn5 s5 ii kq
      go_wp2_with (first
        | (refine wpList_alloc_Row (w := w6) rfl 22 rfl .u8 32 zero_32 ?_; intro w7 r7 g7 z7)
        | (refine wpList_store_RowTo (w := w7) rfl 22 _ _ rfl w6.heap.size rfl 22 .u8 _ (piece key info (k + 1)) rfl r7 32 info_32 HPL.out (by simp) HPW.out ?_; intro w8 r8 g8 z8; have i8 := r8.ints (n := 32) (by rw [HPL.out]; omega); rw [List.take_of_length_le (by rw [HPL.out]; omega)] at i8)
        | (at_builtin; refine wpList_append_ints w8 rfl _ _ 27 rfl w8.heap.size 5 .u8 1 Tryz.underlying27 info_u8 (.slice none 0 0) [] rfl (Mem.Own.nil _ _ _ _) w8.heap.size (some ⟨w6.heap.size, 0, none⟩) 32 32 (piece key info (k + 1)) rfl i8 (by simp) (by omega) (Nat.le_refl _) ?_; intro v9 w9 o9 g9 t9; obtain ⟨A9', c9', rfl, h9a, h9b, j9⟩ := o9.form; obtain ⟨n9', hn9'⟩ : ∃ n9', ([] ++ piece key info (k + 1)).length = n9' := ⟨_, rfl⟩; rw [hn9'] at o9 j9 h9a ⊢; have HN9 := Lib.hid hn9'; clear hn9'; have d9 : Below wr.heap.size wr w9 := ((c6.grown g7 s6 (by simp)).grown g8 (by have := g7.size; omega) (fun r e => by cases e; exact s6)).grown g9 (by have := g7.size; have := g8.size; omega) (by simp [Value.ownBlock]))
        | (at_builtin; refine wpList_append_ints w9 rfl _ _ 27 rfl (w.heap.size + 1) 5 .u8 1 Tryz.underlying27 info_u8 (.slice A8 q c8) (stream key info k) rfl (o8.below d9) w9.heap.size A9' n9' c9' ([] ++ piece key info (k + 1)) rfl j9 (by rw [stream_length]; have := HN9.out; rw [List.nil_append, HPL.out] at this; omega) (by omega) (by have := d9.size; omega) ?_; intro v10 w10 o10 g10 t10; obtain ⟨A10, c10, rfl, h10a, h10b, j10⟩ := o10.form; obtain ⟨n10, hn10⟩ : ∃ n10, (stream key info k ++ ([] ++ piece key info (k + 1))).length = n10 := ⟨_, rfl⟩; rw [hn10] at o10 j10 h10a ⊢; have HN10 := Lib.hid hn10; clear hn10))
      have hn10 : n10 = 32 * (k + 1) := by have := HN10.out; rw [List.length_append, stream_length, List.nil_append, HPL.out] at this; omega
      have hn9' : n9' = 32 := by have := HN9.out; rw [List.nil_append, HPL.out] at this; omega
      have s78 : wr.heap.size ≤ w8.heap.size := by have := g7.size; have := g8.size; omega
      have o9k := o9.kept g10 (by
        cases hb : (Value.slice A9' n9' c9').ownBlock with
        | none => exact .inl rfl
        | some r => exact .inr (fun e => by
            have h1 := (o9.2.lt r hb).1
            have h2 := (o8.2.lt r e.symm).2
            omega))
      have iL := o9k.ints HN9.out
      rw [List.nil_append] at iL
      rw [List.nil_append, ← stream_succ] at o10
      have rE := (rk.below d9 rk.lt).grown g10 (fun e => by have := (o8.2.lt _ e.symm).1; omega)
      have bE := (bk.trans (d9.mono bk.size)).grown g10 (by have := bk.size; have := d9.size; omega) (fun r e => by have := (o8.2.lt r e).1; omega)
      clear g7 g8 g9 g10 z7 z8 t9 t10 o9 o9k j9 j10 o8 d9 c6 r7 r8 i8 rk bk i9
      go_roundw
      case rel => exact ⟨k + 1, n10, A10, A9', c10, n9', c9', by omega, Lib.hid hn10, by have := hq.out; omega, by go_num, rfl, o10, rfl, by omega, iL, rE, bE⟩
      case measure => simp [intOf]; omega
    · have hlt' : ¬ (q : Int) < (n : Int) := by omega
      have hqc : q ≤ c8 ∧ c8 ≤ maxLen := by
        obtain ⟨A', c', e, h1, h2, _⟩ := o8.form
        injection e with e1 e2 e3
        omega
      have hfr := fun W => run_front (P := Tryz.prog) (t := 27) (e := 5) (n := q) Tryz.underlying27 (by kernel_rfl) o8.flat (h := n) (by omega) W
      have i8 := (o8.ints (by rw [stream_length, hq.out])).front (h := n) (by omega)
      rw [← out_whole key info k hk, out_take _ _ _ _ (by have := hq.out; omega)] at i8
      go_wp2_with fail
      go_ret2
      exact ⟨A8, c8, rfl, by omega, hqc.2, i8, bk⟩
theorem rexpand_32 (key info : List Int) (hk : key.length = 32) (hkb : ∀ z ∈ key, (Lit.int .u8 z).wf = true) (B : Nat) (A : Option Addr) (m c : Nat) (w : World) (hi : Ints w .u8 B A m info) (hB : B ≤ w.heap.size) (hm : m ≤ 274877906944) :
    Calls Tryz.prog 67 #[.agg (arr .u8 key), .slice A m c, .int .i64 32] w fun e w' => ∃ A' c', e = .returned (.tuple #[.slice A' 32 c', .int .i64 0]) ∧ 32 ≤ c' ∧ c' ≤ maxLen ∧ Ints w' .u8 w'.heap.size A' 32 (out key info 32) ∧ Below w.heap.size w w' :=
  rexpand_any key info hk hkb B A m c 32 w hi hB hm (by omega) (by omega)
theorem fill_of_row {w : World} {g : Nat} {t : TypeId} {k : IntKind} {zs : List Int} {L : List Value} (h : Row w g t k zs) : Fill w g t zs.length L 0 := ⟨_, h.2, by simp, by simp⟩
set_option maxRecDepth 100000 in
set_option maxHeartbeats 4000000 in
theorem rkey_any (B B' B2 : Nat) (A A' A2 : Option Addr) (n c n' c' m c2 : Nat) (salt key info : List Int) (w : World) (h : Ints w .u8 B A n salt) (hB : B ≤ w.heap.size) (hn : n ≤ 274877906944)
    (h' : Ints w .u8 B' A' n' key) (hB' : B' ≤ w.heap.size) (hn' : n' ≤ 274877906944) (h2 : Ints w .u8 B2 A2 m info) (hB2 : B2 ≤ w.heap.size) (hm : m ≤ 274877906944) :
    Calls Tryz.prog 44 #[.slice A n c, .slice A' n' c', .slice A2 m c2] w fun e w' => e = .returned (.agg (arr .u8 (hkey salt key info))) ∧ Below w.heap.size w w' := by
  go_enter Tryz.func44, Tryz.ntmps44
  go_wp2_with (refine wpList_alloc_Row (w := w) rfl 22 rfl .u8 32 zero_32 ?_; intro w1 r1 g1 z1)
  have b1 : Below w.heap.size w w1 := (Below.refl _ w).grown g1 (Nat.le_refl _) (by simp)
  have s1 := b1.size
  refine (rextract_any B B' A A' n c n' c' salt key w1 (h.below (b1.mono hB)) (by omega) hn (h'.below (b1.mono hB')) (by omega) hn').mono ?_
  rintro e w2 ⟨rfl, hb⟩
  have b2 := b1.trans (hb.mono s1)
  have r2 := r1.below hb r1.lt
  have s2 := b2.size
  clear hb b1 r1 g1 z1 s1
  go_wp2_with fail
  refine (rexpand_32 (tag salt key) info (tag_length _ _) (tag_wf _ _) B2 A2 m c2 w2 (h2.below (b2.mono hB2)) (by omega) hm).mono ?_
  rintro e w3 ⟨A3, c3, rfl, h3a, h3b, i3, hb⟩
  have b3 := b2.trans (hb.mono s2)
  have r3 := r2.below hb r2.lt
  have s3 := b3.size
  rw [← hkey_def] at i3
  obtain ⟨ks, hks⟩ : ∃ ks, hkey salt key info = ks := ⟨_, rfl⟩
  have hkl : ks.length = 32 := by rw [← hks]; exact hkey_length _ _ _
  have hkw : ∀ z ∈ ks, (Lit.int .u8 z).wf = true := by rw [← hks]; exact hkey_wf _ _ _
  rw [hks] at i3
  have HKS := Lib.hid hks
  have HKL := Lib.hid hkl
  have HKW := Lib.hid hkw
  clear hks hkl hkw hb b2 r2 s2
  have l3 := r3.lt
  go_wp2_with (refine wpList_alloc_Row (w := w3) rfl 22 rfl .u8 32 zero_32 ?_; intro w4 r4 g4 z4)
  obtain ⟨g, hg⟩ : ∃ g, w3.heap.size = g := ⟨_, rfl⟩
  rw [hg] at r4 l3 i3 ⊢
  have b4 : Below w.heap.size w w4 := b3.grown g4 s3 (by simp)
  have i4 : Ints w4 .u8 g A3 32 ks := i3.keep fun p hp => World.cell?_of_block (g4.block _ (by omega) (by simp))
  have r34 := r3.grown g4 (by simp)
  have f4 : Fill w4 g 22 32 (ks.map (Value.int .u8)) 0 := by simpa using fill_of_row (L := ks.map (Value.int .u8)) r4
  clear g4 z4 hg b3 i3 r3 r4 s3
  go_loopw [10] (fun i wr => ∃ k : Nat, k ≤ 32 ∧ i = .int .i64 k ∧ Fill wr g 22 32 (ks.map (Value.int .u8)) k ∧ Ints wr .u8 g A3 32 ks ∧ Row wr w.heap.size 22 .u8 (List.replicate 32 0) ∧ Below w.heap.size w wr) (fun i _ => 32 - (intOf i).toNat)
  case atStart => exact ⟨0, by omega, rfl, f4, i4, r34, b4⟩
  case round =>
    clear f4 i4 r34 b4
    obtain ⟨k, hk, rfl, fk, ik, rk, bk⟩ := hrel
    by_cases hlt : k < 32
    · obtain ⟨b, off, rfl, hbl, hc⟩ := ik.at_ hlt
      obtain ⟨u, hu⟩ := fk.cell hlt
      have hfr := fk.frozen k
      have HS := Lib.hid (fk.step (u := .int .u8 (ks.getD k 0)) (by rw [List.getElem?_map, List.getElem?_eq_getElem (by rw [HKL.out]; exact hlt), List.getD_eq_getElem?_getD, List.getElem?_eq_getElem (by rw [HKL.out]; exact hlt)]; rfl) hlt)
      have hlt' : (k : Int) < 32 := by omega
      have hk0 : (0 : Int) ≤ (k : Int) := by omega
      generalize ks.getD k 0 = z at hc HS
      go_wp2_with fail
      go_roundw
      case rel => exact ⟨k + 1, by omega, by go_num, HS.out, ik.setCell (by simp) _, rk.other (by simpa using (by omega : g ≠ w.heap.size)) _, bk.setCell (by simpa using (by omega : w.heap.size ≤ g)) _⟩
      case measure => simp [intOf]; omega
    · have hk32 : k = 32 := by omega
      subst hk32
      have rg : Row wr g 22 .u8 ks := ⟨HKW.out, fk.done (Nat.le_refl _) (by rw [List.length_map, HKL.out])⟩
      clear fk ik
      go_wp2_with (first
        | (refine wpList_load_Row (w := wr) rfl 22 _ rfl g rfl 22 .u8 _ rg 32 5 Tryz.underlying22 info_32 HKL.out ?_)
        | (refine wpList_store_RowTo (w := wr) rfl 22 _ _ rfl w.heap.size rfl 22 .u8 _ ks rfl rk 32 info_32 HKL.out (by simp) HKW.out ?_; intro w6 r6 g6 z6))
      exact bodyPost_ret (results_Row rfl _ _ w.heap.size _ _ _ rfl r6 32 5 Tryz.underlying22 info_32 HKL.out) rfl ⟨by rw [HKS.out], bk.grown g6 bk.size (fun r e => by cases e; exact Nat.le_refl _)⟩
end Go.Proofs.YtjelacblnjbfgaaGreatDoor.Hkdf
namespace Go.Proofs.YtjelacblnjbfgaaGreatDoor.Held
open Go.RowKit Mem
theorem op_copy_Row {P : Program} {ops : Array Oper} {Q : Exit → Act → World → Prop} (i : Nat) (dst : Option Tmp) {o : Oper} {a : Act} {w : World} {K : Act → World → Prop} {d s : Operand} (dT sT : TypeId) (hi : ops[i]? = some o) (hdst : o.dst = dst) (hw : Region.wanted o (yielded ops a.tmps) = true)
    (ho : o.op = .call { callee := .builtin .copy, args := #[d, s], argTypes := #[dT, sT] }) (e : TypeId) (hu : P.underlying dT = some (.slice e)) (hsz : (P.info? e).map (·.size) = some 1)
    (g off dLen dCap : Nat) (B : Nat) (A : Option Addr) (sLen sCap : Nat) (hd : a.eval d = .slice (some ⟨g, off, none⟩) dLen dCap) (hs : a.eval s = .slice A sLen sCap)
    (t : TypeId) (k : IntKind) (cur xs : List Int) (hr : Row w g t k cur) (hx : Ints w k B A sLen xs) (hfit : off + dLen ≤ cur.length)
    (h : ∀ w', Row w' g t k (laidOver cur off (xs.take (min sLen dLen))) → w.grownBy w' (some g) → K (a.put dst (.int .i64 ((min sLen dLen : Nat) : Int))) w') : wpOp P ops Q i K a w := by
  subst hdst
  refine op_wp i hi hw ?_
  obtain ⟨m, hm⟩ : ∃ m, min sLen dLen = m := ⟨_, rfl⟩
  rw [hm] at h
  have hlen : (xs.take m).length = m := by rw [List.length_take, hx.1]; omega
  by_cases h0 : m = 0
  · subst h0
    have hrun := run_copy_none (P := P) w dT sT o.type e (some ⟨g, off, none⟩) A dLen dCap sLen sCap hu hsz hm
    unfold Oper.wp
    simp [execOp, ho, resolve, invoke, builtin, hd, hs, hrun, Result.andThen]
    exact h w (by rw [List.take_zero, laidOver_nil]; exact hr) (World.grownBy.refl _ _)
  · obtain ⟨b, o2, rfl, _, hc⟩ := hx.2.2 (by omega)
    have hrun := run_copy_row (P := P) w dT sT o.type e g off dLen dCap ⟨b, o2, none⟩ sLen sCap (cur.map (Value.int k)).toArray t ((xs.take m).map (Value.int k)) hu hsz hr.2 (by rw [List.length_map, hlen]; exact hm.symm)
      (fun j v hv => by
        have hj : j < m := by
          have := (List.getElem?_eq_some_iff.1 hv).1
          rw [List.length_map, hlen] at this
          exact this
        have e1 : (Addr.mk b o2 none).add j = ⟨b, o2 + j, none⟩ := by unfold Addr.add; split <;> simp_all
        rw [e1, hc j (by omega), ← hv]
        simp [List.getD_eq_getElem?_getD, hj, show j < xs.length by have := hx.1; omega])
      (by simp [hx.1]; omega) (by intro v hv; obtain ⟨z, _, rfl⟩ := List.mem_map.1 hv; rfl)
    have hcells : (((cur.map (Value.int k)).toArray.toList.take off ++ ((xs.take m).map (Value.int k) ++ (cur.map (Value.int k)).toArray.toList.drop (off + ((xs.take m).map (Value.int k)).length)))).toArray = arr k (laidOver cur off (xs.take m)) := by
      rw [List.length_map, hlen]
      simp [arr, laidOver, List.map_take, List.map_drop, hlen]
    have hrun' : (Builtin.copy_ #[dT, sT] o.type #[.slice (some ⟨g, off, none⟩) dLen dCap, .slice (some ⟨b, o2, none⟩) sLen sCap]).run P w = .ok (.int .i64 (m : Int)) (w.setRow g (arr k (laidOver cur off (xs.take m)))) := by
      rw [← hcells]
      have := hrun
      rw [List.length_map, hlen, List.append_assoc] at this
      rw [List.length_map, hlen]
      exact this
    unfold Oper.wp
    simp [execOp, ho, resolve, invoke, builtin, hd, hs, hrun', Result.andThen]
    exact h _ (hr.setRow (fun z hz => by
      rcases laidOver_mem hz with h1 | h1
      · exact hr.1 z h1
      · exact hx.2.1 z (List.mem_of_mem_take h1))) (grown_setRow _ _ _)
end Go.Proofs.YtjelacblnjbfgaaGreatDoor.Held
namespace Go.Proofs.YtjelacblnjbfgaaGreatDoor.Mem
open Go.RowKit Go.Shelf
theorem run_store_elem {P : Program} {w : World} (ty : TypeId) (g i : Nat) (u v : Value) (hc : w.cell? ⟨g, i, none⟩ = some u) (hf : w.frozen? ⟨g, i, none⟩ = false) (hsz : (P.info? ty).map (·.size) = some 1) (h1 : v.cells = #[v]) (ho1 : v.oneCell' = true) :
    (storeVar ty ⟨g, i, none⟩ v).run P w = .ok () (w.setCell ⟨g, i, none⟩ v) := by
  have hz : (sizeOf ty).run P w = .ok 1 w := by
    cases hq : P.info? ty with
    | none => simp [hq] at hsz
    | some q => simp [hq] at hsz; simp [sizeOf, typeInfo, hq, hsz]
  have ea : (Addr.mk g i none).add 0 = ⟨g, i, none⟩ := by unfold Addr.add; split <;> simp_all
  simp [storeVar, hz, h1, Sem.run_bind, Result.andThen, storeCells, run_store P w _ v _ ho1, ea, hc, hf]
theorem wpList_store_elem {P : Program} {ops : Array Oper} {rest : List Oper} {o : Oper} {a : Act} {w : World} {Q : Exit → Act → World → Prop} (hgd : o.guard = none) (ty : TypeId) (x y : Operand) (ho : o.op = .store ty x y) (g i : Nat) (hx : a.eval x = .pointer (some ⟨g, i, none⟩)) (t : TypeId) (k : IntKind) (zs : List Int) (z : Int) (hy : a.eval y = .int k z)
    (hr : Row w g t k zs) (hi : i < zs.length) (hsz : (P.info? ty).map (·.size) = some 1) (hz : (Lit.int k z).wf = true)
    (h : ∀ w', Row w' g t k (zs.set i z) → w.grownBy w' (some g) → Hid (w'.heap.size = w.heap.size) → wpList P ops Q rest (a.put o.dst undef) w') : wpList P ops Q (o :: rest) a w := by
  refine wpList_plain hgd fun K hK => ?_
  unfold Oper.wp execOp
  simp only [ho, hx, hy, Instr.storeAt, Instr.sureAddr, Sem.run_bind, Sem.run_pure, Result.andThen_ok, run_store_elem ty g i _ (.int k z) (hr.cell hi) (hr.frozen i) hsz rfl rfl]
  exact hK _ _ (h _ (hr.set i hz) (grown_setCell _ _ _ _) (Lib.hid (by simp [World.setCell])))
end Go.Proofs.YtjelacblnjbfgaaGreatDoor.Mem
