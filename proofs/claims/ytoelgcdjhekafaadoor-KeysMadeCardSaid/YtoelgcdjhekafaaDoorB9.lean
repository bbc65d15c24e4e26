/-
  The document's own Tag (HMAC of one text) by its contract. Conditions: a key and a text of at most 2^40 bytes.
  Texts within a drawn region, and small lists of numbers as rows of their own: no program here. No conditions beyond those stated.
  More operations of a drawn region, one by one: make, append with new room, texts that are not alike; dominohelp.Bytes of like texts. No conditions beyond those stated.
  Slices cut: s[:h] and s[l:] by their run, and what they read as. No program here. No conditions beyond those stated.
-/
import Derived.Test.YtoelgcdjhekafaaDoorB5
import Derived.Test.YtoelgcdjhekafaaDoorB8
import Derived.Test.YtoelgcdjhekafaaDoorB7
import Derived.Test.YtoelgcdjhekafaaDoorB1
import Derived.Deep.OwnRows
import Derived.Laws.Slices
namespace Go.Proofs.YtoelgcdjhekafaaDoor.Mac
open Go.RowKit Go.Proofs.YtoelgcdjhekafaaDoor.Mem Go.Proofs.YtoelgcdjhekafaaDoor.Help Go.Proofs.YtoelgcdjhekafaaDoor.Sum Go.Proofs.YtoelgcdjhekafaaDoor.Sha
set_option linter.unusedVariables false
attribute [local irreducible] wpList wpListIn

/-- the first k of 64, turned; zeros behind -/
def upto (t : Int) (bs : List Int) (k : Nat) : List Int := turned t (bs.take k) ++ List.replicate (64 - k) 0
theorem upto_start (t : Int) (bs : List Int) (h : bs.length = 64) : upto t bs 0 = List.replicate 64 0 := by simp only [upto, List.take_zero, turned, List.map_nil, List.nil_append]
theorem upto_length (t : Int) (bs : List Int) (k : Nat) (h : bs.length = 64) (hk : k ≤ 64) : (upto t bs k).length = 64 := by
  rw [upto, List.length_append, turned_length, List.length_take, List.length_replicate]; omega
theorem upto_end (t : Int) (bs : List Int) (h : bs.length = 64) : upto t bs 64 = turned t bs := by
  rw [upto, List.take_of_length_le (by omega), Nat.sub_self, List.replicate_zero, List.append_nil]
theorem upto_set (t : Int) (bs : List Int) {k : Nat} (h : bs.length = 64) (hk : k < 64) : (upto t bs k).set k (flip t (bs.getD k 0)) = upto t bs (k + 1) := by
  have hl : (turned t (bs.take k)).length = k := by rw [turned_length, List.length_take]; omega
  obtain ⟨m, hm⟩ : ∃ m, 64 - k = m + 1 := ⟨63 - k, by omega⟩
  have hm2 : 64 - (k + 1) = m := by omega
  have hkb : k < bs.length := by omega
  unfold upto
  rw [hm2, hm, List.set_append_right _ _ (by omega), hl, Nat.sub_self, List.replicate_succ, List.set_cons_zero, List.take_succ_eq_append_getElem hkb,
    show turned t (bs.take k ++ [bs[k]]) = turned t (bs.take k) ++ [flip t bs[k]] by rw [turned, List.map_append]; rfl, List.append_assoc, List.getD_eq_getElem?_getD, List.getElem?_eq_getElem hkb]
  rfl
theorem blk_get_lt (key : List Int) {k : Nat} (h : k < (fit key).length) : (blk key).getD k 0 = (fit key).getD k 0 := by
  rw [blk, List.getD_eq_getElem?_getD, List.getElem?_append_left h, ← List.getD_eq_getElem?_getD]
theorem blk_get_ge (key : List Int) {k : Nat} (h : (fit key).length ≤ k) : (blk key).getD k 0 = 0 := by
  rw [blk, List.getD_eq_getElem?_getD, List.getElem?_append_right h, List.getElem?_replicate]
  split <;> rfl

set_option maxRecDepth 100000 in
set_option maxHeartbeats 8000000 in
theorem rtag_any (B B' : Nat) (A A2 : Option Addr) (n c n2 c2 : Nat) (zs ys : List Int) (w : World) (h : Ints w .u8 B A n zs) (hB : B ≤ w.heap.size) (hn : n ≤ 1099511627776) (h2' : Ints w .u8 B' A2 n2 ys) (hB' : B' ≤ w.heap.size) (hn2 : n2 ≤ 549755813888) :
    Calls Tryd.prog 40 #[.slice A n c, .slice A2 n2 c2] w fun e w' => e = .returned (.agg (arr .u8 (tag zs ys))) ∧ Below w.heap.size w w' := by
  have hL := h.1
  have h2 := h2'.more hB'
  have HB := Lib.hid (blk_length zs)
  clear h2'
  by_cases hbig : 64 < n
  · have hbig' : (64 : Int) < (n : Int) := by omega
    have HF := Lib.hid (show fit zs = Sum.sha zs by unfold fit; rw [if_pos (by omega)])
    clear hL
    have hsl32 := fun W g => run_slice_arr_all (P := Tryd.prog) 22 5 32 g W Tryd.underlying22 (by kernel_rfl) (by omega)
    go_enter Tryd.func40, Tryd.ntmps40
    go_wp2_with (refine wpList_alloc_Row rfl 22 rfl .u8 32 zero_32 ?_; intro w0 r0 g0 z0)
    have b0 : Below w.heap.size w w0 := (Below.refl _ w).grown g0 (Nat.le_refl _) (by simp)
    have l0 := r0.lt
    refine (rsum_any B A n c zs _ (h.below (b0.mono hB)) (by omega) hn).mono ?_
    rintro e w1 ⟨rfl, hb1⟩
    have b1 := b0.trans (hb1.mono b0.size)
    have r1 := r0.below hb1 l0
    have l1 := r1.lt
    clear hb1 r0 b0 g0 z0 h
    go_wp2_with (first
      | (refine wpList_alloc_Row (w := w1) rfl 22 rfl .u8 32 zero_32 ?_; intro w2 r2 g2 z2)
      | (refine wpList_store_RowTo (w := w2) rfl 22 _ _ rfl w1.heap.size rfl 22 .u8 _ (Sum.sha zs) rfl r2 32 info_32 (sha_length _) (by simp) (fun z hz => wf_of_byte (sha_bytes _ z hz)) ?_; intro w3 r3 g3 z3; have iX := r3.ints (n := 32) (by rw [sha_length]; omega); rw [List.take_of_length_le (by rw [sha_length]; omega), ← HF.out] at iX; have rX := (r1.grown g2 (by simp)).grown g3 (by intro e; injection e with e; omega); have bX : Below w.heap.size w w3 := (b1.grown g2 b1.size (by simp)).grown g3 (by have := g2.size; have := b1.size; omega) (fun r e => by have := b1.size; cases e; omega))
      | (refine wpList_make_Row (w := w3) rfl _ _ 34 rfl 5 .u8 1 Tryd.underlying34 info_u8 .i64 .i64 _ _ 64 rfl rfl (by omega) (by omega) (by omega) (by omega) ?_; intro w6 r6 g6 z6; replace z6 := Lib.hid z6)
      | (refine wpList_make_Row (w := w6) rfl _ _ 34 rfl 5 .u8 1 Tryd.underlying34 info_u8 .i64 .i64 _ _ 64 rfl rfl (by omega) (by omega) (by omega) (by omega) ?_; intro w7 r7 g7 z7; replace z7 := Lib.hid z7))
    have lX := rX.lt
    have HNX := Lib.hid iX.1
    have b7 : Below w.heap.size w w7 := (bX.grown g6 bX.size (by simp)).grown g7 (by have := g6.size; have := bX.size; omega) (by simp)
    have r67 := r6.grown g7 (by simp)
    have rX7 := (rX.grown g6 (by simp)).grown g7 (by simp)
    have iX7 : Ints w7 .u8 w3.heap.size (some ⟨w1.heap.size, 0, none⟩) 32 (fit zs) := (iX.keep fun p hp => World.cell?_of_block (g6.block _ hp (by simp))).keep fun p hp => World.cell?_of_block (g7.block _ (by have := g6.size; omega) (by simp))
    have sX := bX.size
    have l67 := r6.lt
    obtain ⟨ga, hga⟩ : ∃ ga, w3.heap.size = ga := ⟨_, rfl⟩
    obtain ⟨gb, hgb⟩ : ∃ gb, w6.heap.size = gb := ⟨_, rfl⟩
    rw [hga] at r67 iX7 l67 lX sX
    rw [hgb] at l67 r7
    rw [hga, hgb]
    clear r6 g6 g7 z6 z7 iX rX bX hga hgb
    go_loopw [8] (fun i wr => ∃ k : Nat, k ≤ 64 ∧ i = .int .i64 k ∧ Row wr ga 5 .u8 (upto 54 (blk zs) k) ∧ Row wr gb 5 .u8 (upto 92 (blk zs) k) ∧ Row wr w.heap.size 22 .u8 (List.replicate 32 0) ∧ Ints wr .u8 ga (some ⟨w1.heap.size, 0, none⟩) 32 (fit zs) ∧ Below w.heap.size w wr) (fun i _ => 64 - (intOf i).toNat)
    case atStart => exact ⟨0, by omega, rfl, by rw [upto_start _ _ HB.out]; exact r67, by rw [upto_start _ _ HB.out]; exact r7, rX7, iX7, b7⟩
    case round =>
      clear r67 r7 rX7 iX7 b7
      obtain ⟨k, hk, rfl, ra, rb, ro, ix, bk⟩ := hrel
      by_cases hlt : k < 64
      · obtain ⟨oo, hka⟩ : ∃ oo, wr.cell? ⟨ga, k, none⟩ = some oo := ⟨_, ra.cell (i := k) (by rw [upto_length _ _ _ HB.out (by omega)]; omega)⟩
        have hfa := ra.frozen k
        have hfb := rb.frozen k
        have hlt' : (k : Int) < 64 := by omega
        have hk0 : (0 : Int) ≤ (k : Int) := by omega
        obtain ⟨x, hx⟩ : ∃ x, (blk zs).getD k 0 = x := ⟨_, rfl⟩
        have HSA := Lib.hid (upto_set 54 (blk zs) (k := k) HB.out hlt)
        have HSB := Lib.hid (upto_set 92 (blk zs) (k := k) HB.out hlt)
        rw [hx] at HSA HSB
        have sa : Hid (Row (wr.setCell ⟨ga, k, none⟩ (.int .u8 (flip 54 x))) ga 5 .u8 (upto 54 (blk zs) (k + 1))) := Lib.hid (by rw [← HSA.out]; exact ra.set k (flip_wf _ _))
        have sb : Hid (Row ((wr.setCell ⟨ga, k, none⟩ (.int .u8 (flip 54 x))).setCell ⟨gb, k, none⟩ (.int .u8 (flip 92 x))) gb 5 .u8 (upto 92 (blk zs) (k + 1))) := Lib.hid (by rw [← HSB.out]; exact (rb.other (by simpa using (by omega : ga ≠ gb)) _).set k (flip_wf _ _))
        have hfb2 : (wr.setCell ⟨ga, k, none⟩ (.int .u8 (flip 54 x))).frozen? ⟨gb, k, none⟩ = false := (rb.other (by simpa using (by omega : ga ≠ gb)) _).frozen k
        obtain ⟨ob, hkb2⟩ : ∃ ob, (wr.setCell ⟨ga, k, none⟩ (.int .u8 (flip 54 x))).cell? ⟨gb, k, none⟩ = some ob := ⟨_, (rb.other (by simpa using (by omega : ga ≠ gb)) (.int .u8 (flip 54 x))).cell (i := k) (by rw [upto_length _ _ _ HB.out (by omega)]; omega)⟩
        unfold flip at sa sb hfb2 hkb2
        by_cases hkn : k < 32
        · obtain ⟨b, off, eA, hbl, hcc⟩ := ix.at_ hkn
          have hxv : (fit zs).getD k 0 = x := by rw [← hx]; exact (blk_get_lt zs (by rw [HNX.out]; exact hkn)).symm
          rw [hxv] at hcc
          have hkn' : (k : Int) < (32 : Int) := by omega
          injection eA with eA; injection eA with eA1 eA2; subst eA1; subst eA2; rw [Nat.zero_add] at hcc
          clear hx hxv
          go_wp2_with fail
          go_roundw
          case rel => exact ⟨k + 1, by omega, by go_num, sa.out.other (by simpa using (by omega : gb ≠ ga)) _, sb.out, (ro.other (by simpa using (by omega : ga ≠ w.heap.size)) _).other (by simpa using (by omega : gb ≠ w.heap.size)) _, (ix.setCell (by simp) _).setCell (by simp; omega) _, (bk.setCell (by simp; omega) _).setCell (by simp; omega) _⟩
          case measure => simp [intOf]; omega
        · have hx0 : x = 0 := by rw [← hx]; exact blk_get_ge zs (by rw [HNX.out]; omega)
          have hkn' : ¬ (k : Int) < (32 : Int) := by omega
          subst hx0
          clear hx
          go_wp2_with fail
          go_roundw
          case rel => exact ⟨k + 1, by omega, by go_num, sa.out.other (by simpa using (by omega : gb ≠ ga)) _, sb.out, (ro.other (by simpa using (by omega : ga ≠ w.heap.size)) _).other (by simpa using (by omega : gb ≠ w.heap.size)) _, (ix.setCell (by simp) _).setCell (by simp; omega) _, (bk.setCell (by simp; omega) _).setCell (by simp; omega) _⟩
          case measure => simp [intOf]; omega
      · have hk64 : k = 64 := by omega
        subst hk64
        rw [upto_end _ _ HB.out] at ra rb
        clear ix
        have oa := ra.own (base := ga) (Nat.le_refl _) (n := 64) (by rw [turned_length, HB.out]; omega) (by rw [turned_length, HB.out]; simp [maxLen])
        have ob := rb.own (base := gb) (Nat.le_refl _) (n := 64) (by rw [turned_length, HB.out]; omega) (by rw [turned_length, HB.out]; simp [maxLen])
        rw [turned_length, HB.out, List.take_of_length_le (by rw [turned_length, HB.out]; omega)] at oa ob
        have HTA := Lib.hid (turned_length 54 (blk zs))
        have HTB := Lib.hid (turned_length 92 (blk zs))
        have lgb := rb.lt
        have ti := h2.below bk
        clear ra rb
        go_wp2_with (at_builtin; refine wpList_append_ints _ rfl _ _ 34 rfl ga 5 .u8 1 Tryd.underlying34 info_u8 _ _ rfl oa w.heap.size A2 n2 c2 ys rfl ti (by rw [HTA.out, HB.out]; omega) (by omega) (by omega) ?_; intro v3 w3 o3 g3 at3)
        have b3 : Below w.heap.size w w3 := bk.grown g3 bk.size (fun r e => by have : some ga = some r := e; cases this; omega)
        have ob3 := ob.kept g3 (.inr (fun e => by have e : some gb = some ga := e; injection e with e; omega))
        have ro3 := ro.grown g3 (fun e => by have e : some w.heap.size = some ga := e; injection e with e; omega)
        obtain ⟨A3, c3, rfl, _, _, i3⟩ := o3.form
        have HL3 := Lib.hid (show (turned 54 (blk zs) ++ ys).length = 64 + n2 by rw [List.length_append, HTA.out, HB.out, h2.1])
        rw [HL3.out] at i3 ⊢
        have lg3 := g3.size
        clear oa o3 g3 at3 ob ro ti bk
        go_wp2_with fail
        refine (rsum_any _ A3 (64 + n2) c3 (turned 54 (blk zs) ++ ys) _ i3 (Nat.le_refl _) (by omega)).mono ?_
        rintro e w4 ⟨rfl, hb4⟩
        have b4 := b3.trans (hb4.mono b3.size)
        have ob4 := ob3.below hb4
        have ro4 := ro3.below hb4 ro3.lt
        have lg4 := hb4.size
        obtain ⟨msg, hmsg⟩ : ∃ msg, Sum.sha (turned 54 (blk zs) ++ ys) = msg := ⟨_, rfl⟩
        have hml : msg.length = 32 := by rw [← hmsg]; exact sha_length _
        have hmb : Bs msg := by rw [← hmsg]; exact sha_bytes _
        rw [hmsg]
        have HTG := Lib.hid (show tag zs ys = Sum.sha (turned 92 (blk zs) ++ msg) by unfold tag; rw [hmsg])
        have HML := Lib.hid hml
        clear b3 ob3 ro3 hb4 i3 hmsg hml
        have hslM := fun W g => run_slice_arr_all (P := Tryd.prog) 22 5 32 g W Tryd.underlying22 (by kernel_rfl) (by omega)
        go_wp2_with (first
          | (refine wpList_alloc_Row (w := w4) rfl 22 rfl .u8 32 zero_32 ?_; intro w5 r5 g5 z5)
          | (refine wpList_store_RowTo (w := w5) rfl 22 _ _ rfl w4.heap.size rfl 22 .u8 _ msg rfl r5 32 info_32 HML.out (by simp) (fun z hz => wf_of_byte (hmb z hz)) ?_; intro w6 r6 g6 z6; have i6 := r6.ints (n := 32) (by rw [HML.out]; omega); rw [List.take_of_length_le (by rw [HML.out]; omega)] at i6; have ob6 := (ob4.kept g5 (.inr (fun e => by cases e))).kept g6 (.inr (fun e => by have e : some gb = some w4.heap.size := e; injection e with e; omega)); have ro6 := (ro4.grown g5 (by simp)).grown g6 (fun e => by have e : some w.heap.size = some w4.heap.size := e; injection e with e; omega))
          | (at_builtin; refine wpList_append_ints (w := w6) rfl _ _ 34 rfl gb 5 .u8 1 Tryd.underlying34 info_u8 _ _ rfl ob6 w6.heap.size (some ⟨w4.heap.size, 0, none⟩) 32 32 msg rfl i6 (by rw [HTB.out, HB.out]; omega) (by omega) (by have := g5.size; have := g6.size; omega) ?_; intro v8 w8 o8 g8 at8))
        have b6 : Below w.heap.size w w6 := (b4.grown g5 b4.size (by simp)).grown g6 (by have := g5.size; have := b4.size; omega) (fun r e => by have := b4.size; cases e; omega)
        have b8 : Below w.heap.size w w8 := b6.grown g8 b6.size (fun r e => by have : some gb = some r := e; cases this; omega)
        have ro8 := ro6.grown g8 (fun e => by have e : some w.heap.size = some gb := e; injection e with e; omega)
        obtain ⟨A8, c8, rfl, _, _, i8⟩ := o8.form
        have HL8 := Lib.hid (show (turned 92 (blk zs) ++ msg).length = 96 by rw [List.length_append, HTB.out, HB.out, HML.out])
        rw [HL8.out] at i8 ⊢
        clear o8 g8 at8 ro6 ob6 b6 ro4 ob4 b4
        go_wp2_with fail
        refine (rsum_any _ A8 96 c8 (turned 92 (blk zs) ++ msg) _ i8 (Nat.le_refl _) (by omega)).mono ?_
        rintro e w9 ⟨rfl, hb9⟩
        have b9 := b8.trans (hb9.mono b8.size)
        have r9 := ro8.below hb9 ro8.lt
        rw [← HTG.out]
        have HTL := Lib.hid (tag_length zs ys)
        go_wp2_with (refine wpList_store_RowTo (w := w9) rfl 22 _ _ rfl w.heap.size rfl 22 .u8 _ (tag zs ys) rfl r9 32 info_32 HTL.out (by simp) (fun z hz => wf_of_byte (tag_bytes _ _ z hz)) ?_; intro w10 r10 g10 z10)
        exact bodyPost_ret (results_Row rfl _ _ w.heap.size _ _ _ rfl r10 32 5 Tryd.underlying22 info_32 HTL.out) rfl ⟨rfl, b9.grown g10 b9.size (fun r e => by cases e; exact Nat.le_refl _)⟩
  · have hbig' : ¬ (64 : Int) < (n : Int) := by omega
    have HF := Lib.hid (show fit zs = zs by unfold fit; rw [if_neg (by omega)])
    clear hL
    go_enter Tryd.func40, Tryd.ntmps40
    go_wp2_with (first
      | (refine wpList_alloc_Row (w := w) rfl 22 rfl .u8 32 zero_32 ?_; intro w3 rX g3 z3; have bX : Below w.heap.size w w3 := (Below.refl _ w).grown g3 (Nat.le_refl _) (by simp); have iX := (h.below (bX.mono hB)).more (show B ≤ w3.heap.size by have := g3.size; omega); rw [← HF.out] at iX)
      | (refine wpList_make_Row (w := w3) rfl _ _ 34 rfl 5 .u8 1 Tryd.underlying34 info_u8 .i64 .i64 _ _ 64 rfl rfl (by omega) (by omega) (by omega) (by omega) ?_; intro w6 r6 g6 z6; replace z6 := Lib.hid z6)
      | (refine wpList_make_Row (w := w6) rfl _ _ 34 rfl 5 .u8 1 Tryd.underlying34 info_u8 .i64 .i64 _ _ 64 rfl rfl (by omega) (by omega) (by omega) (by omega) ?_; intro w7 r7 g7 z7; replace z7 := Lib.hid z7))
    have lX := rX.lt
    have HNX := Lib.hid iX.1
    have b7 : Below w.heap.size w w7 := (bX.grown g6 bX.size (by simp)).grown g7 (by have := g6.size; have := bX.size; omega) (by simp)
    have r67 := r6.grown g7 (by simp)
    have rX7 := (rX.grown g6 (by simp)).grown g7 (by simp)
    have iX7 : Ints w7 .u8 w3.heap.size A n (fit zs) := (iX.keep fun p hp => World.cell?_of_block (g6.block _ hp (by simp))).keep fun p hp => World.cell?_of_block (g7.block _ (by have := g6.size; omega) (by simp))
    have sX := bX.size
    have l67 := r6.lt
    obtain ⟨ga, hga⟩ : ∃ ga, w3.heap.size = ga := ⟨_, rfl⟩
    obtain ⟨gb, hgb⟩ : ∃ gb, w6.heap.size = gb := ⟨_, rfl⟩
    rw [hga] at r67 iX7 l67 lX sX
    rw [hgb] at l67 r7
    rw [hga, hgb]
    clear r6 g6 g7 z6 z7 iX rX bX hga hgb
    go_loopw [8] (fun i wr => ∃ k : Nat, k ≤ 64 ∧ i = .int .i64 k ∧ Row wr ga 5 .u8 (upto 54 (blk zs) k) ∧ Row wr gb 5 .u8 (upto 92 (blk zs) k) ∧ Row wr w.heap.size 22 .u8 (List.replicate 32 0) ∧ Ints wr .u8 ga A n (fit zs) ∧ Below w.heap.size w wr) (fun i _ => 64 - (intOf i).toNat)
    case atStart => exact ⟨0, by omega, rfl, by rw [upto_start _ _ HB.out]; exact r67, by rw [upto_start _ _ HB.out]; exact r7, rX7, iX7, b7⟩
    case round =>
      clear r67 r7 rX7 iX7 b7
      obtain ⟨k, hk, rfl, ra, rb, ro, ix, bk⟩ := hrel
      by_cases hlt : k < 64
      · obtain ⟨oo, hka⟩ : ∃ oo, wr.cell? ⟨ga, k, none⟩ = some oo := ⟨_, ra.cell (i := k) (by rw [upto_length _ _ _ HB.out (by omega)]; omega)⟩
        have hfa := ra.frozen k
        have hfb := rb.frozen k
        have hlt' : (k : Int) < 64 := by omega
        have hk0 : (0 : Int) ≤ (k : Int) := by omega
        obtain ⟨x, hx⟩ : ∃ x, (blk zs).getD k 0 = x := ⟨_, rfl⟩
        have HSA := Lib.hid (upto_set 54 (blk zs) (k := k) HB.out hlt)
        have HSB := Lib.hid (upto_set 92 (blk zs) (k := k) HB.out hlt)
        rw [hx] at HSA HSB
        have sa : Hid (Row (wr.setCell ⟨ga, k, none⟩ (.int .u8 (flip 54 x))) ga 5 .u8 (upto 54 (blk zs) (k + 1))) := Lib.hid (by rw [← HSA.out]; exact ra.set k (flip_wf _ _))
        have sb : Hid (Row ((wr.setCell ⟨ga, k, none⟩ (.int .u8 (flip 54 x))).setCell ⟨gb, k, none⟩ (.int .u8 (flip 92 x))) gb 5 .u8 (upto 92 (blk zs) (k + 1))) := Lib.hid (by rw [← HSB.out]; exact (rb.other (by simpa using (by omega : ga ≠ gb)) _).set k (flip_wf _ _))
        have hfb2 : (wr.setCell ⟨ga, k, none⟩ (.int .u8 (flip 54 x))).frozen? ⟨gb, k, none⟩ = false := (rb.other (by simpa using (by omega : ga ≠ gb)) _).frozen k
        obtain ⟨ob, hkb2⟩ : ∃ ob, (wr.setCell ⟨ga, k, none⟩ (.int .u8 (flip 54 x))).cell? ⟨gb, k, none⟩ = some ob := ⟨_, (rb.other (by simpa using (by omega : ga ≠ gb)) (.int .u8 (flip 54 x))).cell (i := k) (by rw [upto_length _ _ _ HB.out (by omega)]; omega)⟩
        unfold flip at sa sb hfb2 hkb2
        by_cases hkn : k < n
        · obtain ⟨b, off, eA, hbl, hcc⟩ := ix.at_ hkn
          have hxv : (fit zs).getD k 0 = x := by rw [← hx]; exact (blk_get_lt zs (by rw [HNX.out]; exact hkn)).symm
          rw [hxv] at hcc
          have hkn' : (k : Int) < (n : Int) := by omega
          subst eA
          clear hx hxv
          go_wp2_with fail
          go_roundw
          case rel => exact ⟨k + 1, by omega, by go_num, sa.out.other (by simpa using (by omega : gb ≠ ga)) _, sb.out, (ro.other (by simpa using (by omega : ga ≠ w.heap.size)) _).other (by simpa using (by omega : gb ≠ w.heap.size)) _, (ix.setCell (by simp) _).setCell (by simp; omega) _, (bk.setCell (by simp; omega) _).setCell (by simp; omega) _⟩
          case measure => simp [intOf]; omega
        · have hx0 : x = 0 := by rw [← hx]; exact blk_get_ge zs (by rw [HNX.out]; omega)
          have hkn' : ¬ (k : Int) < (n : Int) := by omega
          subst hx0
          clear hx
          go_wp2_with fail
          go_roundw
          case rel => exact ⟨k + 1, by omega, by go_num, sa.out.other (by simpa using (by omega : gb ≠ ga)) _, sb.out, (ro.other (by simpa using (by omega : ga ≠ w.heap.size)) _).other (by simpa using (by omega : gb ≠ w.heap.size)) _, (ix.setCell (by simp) _).setCell (by simp; omega) _, (bk.setCell (by simp; omega) _).setCell (by simp; omega) _⟩
          case measure => simp [intOf]; omega
      · have hk64 : k = 64 := by omega
        subst hk64
        rw [upto_end _ _ HB.out] at ra rb
        clear ix
        have oa := ra.own (base := ga) (Nat.le_refl _) (n := 64) (by rw [turned_length, HB.out]; omega) (by rw [turned_length, HB.out]; simp [maxLen])
        have ob := rb.own (base := gb) (Nat.le_refl _) (n := 64) (by rw [turned_length, HB.out]; omega) (by rw [turned_length, HB.out]; simp [maxLen])
        rw [turned_length, HB.out, List.take_of_length_le (by rw [turned_length, HB.out]; omega)] at oa ob
        have HTA := Lib.hid (turned_length 54 (blk zs))
        have HTB := Lib.hid (turned_length 92 (blk zs))
        have lgb := rb.lt
        have ti := h2.below bk
        clear ra rb
        go_wp2_with (at_builtin; refine wpList_append_ints _ rfl _ _ 34 rfl ga 5 .u8 1 Tryd.underlying34 info_u8 _ _ rfl oa w.heap.size A2 n2 c2 ys rfl ti (by rw [HTA.out, HB.out]; omega) (by omega) (by omega) ?_; intro v3 w3 o3 g3 at3)
        have b3 : Below w.heap.size w w3 := bk.grown g3 bk.size (fun r e => by have : some ga = some r := e; cases this; omega)
        have ob3 := ob.kept g3 (.inr (fun e => by have e : some gb = some ga := e; injection e with e; omega))
        have ro3 := ro.grown g3 (fun e => by have e : some w.heap.size = some ga := e; injection e with e; omega)
        obtain ⟨A3, c3, rfl, _, _, i3⟩ := o3.form
        have HL3 := Lib.hid (show (turned 54 (blk zs) ++ ys).length = 64 + n2 by rw [List.length_append, HTA.out, HB.out, h2.1])
        rw [HL3.out] at i3 ⊢
        have lg3 := g3.size
        clear oa o3 g3 at3 ob ro ti bk
        go_wp2_with fail
        refine (rsum_any _ A3 (64 + n2) c3 (turned 54 (blk zs) ++ ys) _ i3 (Nat.le_refl _) (by omega)).mono ?_
        rintro e w4 ⟨rfl, hb4⟩
        have b4 := b3.trans (hb4.mono b3.size)
        have ob4 := ob3.below hb4
        have ro4 := ro3.below hb4 ro3.lt
        have lg4 := hb4.size
        obtain ⟨msg, hmsg⟩ : ∃ msg, Sum.sha (turned 54 (blk zs) ++ ys) = msg := ⟨_, rfl⟩
        have hml : msg.length = 32 := by rw [← hmsg]; exact sha_length _
        have hmb : Bs msg := by rw [← hmsg]; exact sha_bytes _
        rw [hmsg]
        have HTG := Lib.hid (show tag zs ys = Sum.sha (turned 92 (blk zs) ++ msg) by unfold tag; rw [hmsg])
        have HML := Lib.hid hml
        clear b3 ob3 ro3 hb4 i3 hmsg hml
        have hslM := fun W g => run_slice_arr_all (P := Tryd.prog) 22 5 32 g W Tryd.underlying22 (by kernel_rfl) (by omega)
        go_wp2_with (first
          | (refine wpList_alloc_Row (w := w4) rfl 22 rfl .u8 32 zero_32 ?_; intro w5 r5 g5 z5)
          | (refine wpList_store_RowTo (w := w5) rfl 22 _ _ rfl w4.heap.size rfl 22 .u8 _ msg rfl r5 32 info_32 HML.out (by simp) (fun z hz => wf_of_byte (hmb z hz)) ?_; intro w6 r6 g6 z6; have i6 := r6.ints (n := 32) (by rw [HML.out]; omega); rw [List.take_of_length_le (by rw [HML.out]; omega)] at i6; have ob6 := (ob4.kept g5 (.inr (fun e => by cases e))).kept g6 (.inr (fun e => by have e : some gb = some w4.heap.size := e; injection e with e; omega)); have ro6 := (ro4.grown g5 (by simp)).grown g6 (fun e => by have e : some w.heap.size = some w4.heap.size := e; injection e with e; omega))
          | (at_builtin; refine wpList_append_ints (w := w6) rfl _ _ 34 rfl gb 5 .u8 1 Tryd.underlying34 info_u8 _ _ rfl ob6 w6.heap.size (some ⟨w4.heap.size, 0, none⟩) 32 32 msg rfl i6 (by rw [HTB.out, HB.out]; omega) (by omega) (by have := g5.size; have := g6.size; omega) ?_; intro v8 w8 o8 g8 at8))
        have b6 : Below w.heap.size w w6 := (b4.grown g5 b4.size (by simp)).grown g6 (by have := g5.size; have := b4.size; omega) (fun r e => by have := b4.size; cases e; omega)
        have b8 : Below w.heap.size w w8 := b6.grown g8 b6.size (fun r e => by have : some gb = some r := e; cases this; omega)
        have ro8 := ro6.grown g8 (fun e => by have e : some w.heap.size = some gb := e; injection e with e; omega)
        obtain ⟨A8, c8, rfl, _, _, i8⟩ := o8.form
        have HL8 := Lib.hid (show (turned 92 (blk zs) ++ msg).length = 96 by rw [List.length_append, HTB.out, HB.out, HML.out])
        rw [HL8.out] at i8 ⊢
        clear o8 g8 at8 ro6 ob6 b6 ro4 ob4 b4
        go_wp2_with fail
        refine (rsum_any _ A8 96 c8 (turned 92 (blk zs) ++ msg) _ i8 (Nat.le_refl _) (by omega)).mono ?_
        rintro e w9 ⟨rfl, hb9⟩
        have b9 := b8.trans (hb9.mono b8.size)
        have r9 := ro8.below hb9 ro8.lt
        rw [← HTG.out]
        have HTL := Lib.hid (tag_length zs ys)
        go_wp2_with (refine wpList_store_RowTo (w := w9) rfl 22 _ _ rfl w.heap.size rfl 22 .u8 _ (tag zs ys) rfl r9 32 info_32 HTL.out (by simp) (fun z hz => wf_of_byte (tag_bytes _ _ z hz)) ?_; intro w10 r10 g10 z10)
        exact bodyPost_ret (results_Row rfl _ _ w.heap.size _ _ _ rfl r10 32 5 Tryd.underlying22 info_32 HTL.out) rfl ⟨rfl, b9.grown g10 b9.size (fun r e => by cases e; exact Nat.le_refl _)⟩
end Go.Proofs.YtoelgcdjhekafaaDoor.Mac
namespace Go.Proofs.YtoelgcdjhekafaaDoor.Held
open Go.RowKit Go.Proofs.YtoelgcdjhekafaaDoor.Mem
set_option linter.unusedVariables false

section
variable {P : Program} {S : World → Prop} {ρ : Operand → Value} {o : Oper}
theorem y_text {src dst e : TypeId} {x : Operand} {B : Nat} {A : Option Addr} {n c : Nat} {zs : List Int} (ho : o.op = .convert src dst x) (hx : ρ x = .slice A n c) (hs : P.underlying src = some (.slice e)) (he : P.underlying e = some (.int .u8)) (hd : P.underlying dst = some .string)
    (hi : ∀ w, S w → Ints w .u8 B A n zs) : ∀ w, S w → (execOp ρ o).run P w = .ok (.value (.string (strOfNums zs))) w := fun w hw => by
  simp [execOp, ho, hx, run_text w src dst e hs he hd B A n c zs (hi w hw)]
theorem y_eqs {t ty : TypeId} {x y : Operand} {s : ByteArray} (ho : o.op = .binOp .eql t x y ty) (hx : ρ x = .string s) (hy : ρ y = .string s) (ht : P.underlying t = some .string) :
    ∀ w, S w → (execOp ρ o).run P w = .ok (.value (.bool true)) w := y_bin ho hx hy (fun w => by simp [eqGuard]) (fun w => by simp [binOp, Op.stringOp])
theorem y_len_ {t : TypeId} {x : Operand} {A : Option Addr} {n c : Nat} {r : Int} (ho : o.op = .call { callee := .builtin .len, args := #[x], argTypes := #[t] }) (hx : ρ x = .slice A n c) (ht : P.underlying t = some (.slice (P.elem t))) (hr : (n : Int) = r) :
    ∀ w, S w → (execOp ρ o).run P w = .ok (.value (.int .i64 r)) w := by subst hr; exact y_len ho hx ht
theorem y_eqi {t ty : TypeId} {x y : Operand} {k : IntKind} {a : Int} (ho : o.op = .binOp .eql t x y ty) (hx : ρ x = .int k a) (hy : ρ y = .int k a) :
    ∀ w, S w → (execOp ρ o).run P w = .ok (.value (.bool true)) w := y_bin ho hx hy (fun w => by simp [eqGuard]) (fun w => by simp [binOp, Op.intCmp])
theorem y_eqn {t ty : TypeId} {x y : Operand} {k : IntKind} {a b : Int} (ho : o.op = .binOp .eql t x y ty) (hx : ρ x = .int k a) (hy : ρ y = .int k b) (hab : a ≠ b) :
    ∀ w, S w → (execOp ρ o).run P w = .ok (.value (.bool false)) w := y_bin ho hx hy (fun w => by simp [eqGuard]) (fun w => by simp [binOp, Op.intCmp, hab])
/-- two arrays of the same numbers, said apart -/
theorem y_eql2 {t e ty : TypeId} {x y : Operand} {k : IntKind} {zs ys : List Int} {n : Nat} (ho : o.op = .binOp .eql t x y ty) (hx : ρ x = .agg (arr k zs)) (hy : ρ y = .agg (arr k ys)) (he' : zs = ys) (hq : P.eqGuardType P.depth t = false) (ht : P.underlying t = some (.array n e)) (he : P.underlying e = some (.int k)) (hs : (P.info? e).map (·.size) = some 1) (hn : zs.length = n) :
    ∀ w, S w → (execOp ρ o).run P w = .ok (.value (.bool true)) w := by subst he'; exact y_eql ho hx hy hq ht he hs hn
end

section
variable {P : Program} {S : World → Prop} {ρ : Operand → Value} {o : Oper}
theorem y_pickF {c x y : Operand} {v : Value} (ho : o.op = .pick c x y) (hc : ρ c = .bool false) (hv : ρ y = v) : ∀ w, S w → (execOp ρ o).run P w = .ok (.value v) w := fun w _ => by simp [execOp, ho, hv, hc, asBool]
theorem y_not {x : Operand} {b r : Bool} {t : TypeId} (ho : o.op = .unOp .not t x) (hx : ρ x = .bool b) (hr : (!b) = r) : ∀ w, S w → (execOp ρ o).run P w = .ok (.value (.bool r)) w := fun w _ => by subst hr; simp [execOp, ho, hx, Op.unary]
theorem y_eqb {t ty : TypeId} {x y : Operand} {a b r : Bool} (ho : o.op = .binOp .eql t x y ty) (hx : ρ x = .bool a) (hy : ρ y = .bool b) (hr : (a == b) = r) (ht : P.underlying t = some .bool) :
    ∀ w, S w → (execOp ρ o).run P w = .ok (.value (.bool r)) w := y_bin ho hx hy (fun w => by simp [eqGuard]) (fun w => by subst hr; simp [binOp, run_equal_bool _ t a b ht])
end
section
variable {P : Program} {ops : Array Oper} {Q : Exit → Act → World → Prop} {md : Region.Mode} {S : World → Prop}
/-- what a guard shuts out is passed over -/
theorem skip (i : Nat) (d : Option Tmp) {oi : Oper} {fuel : Nat} {listed : Array Bool} {a : Act} {w : World} (hi : ops[i]? = some oi) (hd : oi.dst = d)
    (hs : Region.noSelect ops = true) (hf : Region.free md ops listed i = true) (hr : (Region.ready md ops listed).contains i = true)
    (hQ : ∀ c a w, Q (.panic c) (a.put d undef) w → Q (.panic c) a w) (hw : Region.wanted oi (yielded ops a.tmps) = false) (hS : S w)
    (h : wpAnyH P md ops Q S fuel (listed.setIfInBounds i true) (a.put d undef) w) : wpAnyH P md ops Q S (fuel + 1) listed a w := by
  subst hd
  exact wpAnyH_take hi hs hf hr hQ (.inr ⟨hw, rfl⟩) hS h
end

/-- a new list of numbers, as a row of its own, the new world a letter -/
theorem wpList_build_row {P : Program} {ops : Array Oper} {rest : List Oper} {o : Oper} {a : Act} {w : World} {Q : Exit → Act → World → Prop} (hgd : o.guard = none) (t e : TypeId) (len : Nat) (parts : Array (Nat × Operand)) (ho : o.op = .buildSlice t len parts) (k : IntKind) (bytes : Nat) (zs : List Int)
    (hu : P.underlying t = some (.slice e)) (hinfo : (P.info? e).map (fun i => (i.zero, i.size, i.bytes)) = some (some (.int k 0), 1, bytes)) (hp : (parts.map fun (i, x) => (i, a.eval x)).toList = ((zs.map (Value.int k)).zipIdx 0).map fun x => (x.2, x.1))
    (hl : zs.length = len) (h0 : 0 < len) (hlen : len ≤ 1000) (hwf : ∀ z ∈ zs, (Lit.int k z).wf = true)
    (h : ∀ w', Row w' w.heap.size e k zs → w.grownBy w' none → Hid (w'.heap.size = w.heap.size + 1) → wpList P ops Q rest (a.put o.dst (.slice (some ⟨w.heap.size, 0, none⟩) len len)) w') : wpList P ops Q (o :: rest) a w := by
  refine wpList_plain hgd fun K hK => ?_
  obtain ⟨ie, hie, hz, hsz, _⟩ := info_parts hinfo
  have hl' : (zs.map (Value.int k)).length = len := by simpa using hl
  have h' := hK _ _ (h _ (Row.new w e hwf) (World.grownBy_alloc w _ none) (Lib.hid (by simp)))
  unfold arr at h'
  have h1 : ∀ v ∈ zs.map (Value.int k), v.cells = #[v] := by intro v hv; obtain ⟨z, _, rfl⟩ := List.mem_map.1 hv; rfl
  generalize zs.map (Value.int k) = vs at hp hl' h' h1
  subst hl'
  refine Go.wp_buildSlice t e vs.length parts ho vs.toArray ie (.int k 0) hu hie hz (by rw [hsz]; omega) (by rw [hsz]; omega) ?_ h'
  rw [hp]
  simp only [hsz]
  exact Go.Great.fill_flat vs _ h1 (by simp)
end Go.Proofs.YtoelgcdjhekafaaDoor.Held
namespace Go.Proofs.YtoelgcdjhekafaaDoor.Held
open Go.RowKit Go.Proofs.YtoelgcdjhekafaaDoor.Mem
set_option linter.unusedVariables false

section
variable {P : Program} {ops : Array Oper} {Q : Exit → Act → World → Prop}
/-- make([]T, n), n said by a constant -/
theorem op_make_Row (i : Nat) (d : Option Tmp) {o : Oper} {a : Act} {w : World} {K : Act → World → Prop} (t e : TypeId) (k : IntKind) (bytes n : Nat) {l c : Operand} (kl kc : IntKind) (hi : ops[i]? = some o) (hd : o.dst = d) (hw : Region.wanted o (yielded ops a.tmps) = true)
    (ho : o.op = .makeSlice t l c) (hu : P.underlying t = some (.slice e)) (hinfo : (P.info? e).map (fun i => (i.zero, i.size, i.bytes)) = some (some (.int k 0), 1, bytes)) (hl : a.eval l = .int kl (n : Int)) (hc : a.eval c = .int kc (n : Int)) (hb : bytes * n ≤ 281474976710656) (hn : n ≤ 9223372036854775807)
    (h : ∀ g w', Row w' g e k (List.replicate n 0) → Below w.heap.size w w' → Hid (w.heap.size ≤ g) → K (a.put d (.slice (some ⟨g, 0, none⟩) n n)) w') : wpOp P ops Q i K a w := by
  subst hd
  refine op_wp i hi hw ?_
  have hrun := Go.run_make_row' (P := P) t e (.int k 0) bytes hu hinfo rfl kl kc n hb hn w
  unfold Oper.wp execOp
  simp only [ho, hl, hc, hrun, Sem.run_bind, Sem.run_pure, Result.andThen_ok]
  refine h _ _ ?_ ((Below.refl _ w).alloc (Nat.le_refl _) _) (Lib.hid (Nat.le_refl _))
  rw [made_zeros]
  exact Row.new w e (zeros_wf k n)
/-- append of numbers that read as a list, onto what the call owns -/
theorem op_append_ints (i : Nat) (d : Option Tmp) {o : Oper} {a : Act} {w : World} {K : Act → World → Prop} {s x : Operand} (ts : TypeId) (hi : ops[i]? = some o) (hd : o.dst = d) (hw : Region.wanted o (yielded ops a.tmps) = true)
    (ho : o.op = .call { callee := .builtin .append, args := #[s, x], argTypes := #[ts, ts] }) (base : Nat) (e : TypeId) (k : IntKind) (bytes : Nat) (ht : P.underlying ts = some (.slice e))
    (hinfo : (P.info? e).map (fun i => (i.zero, i.size, i.bytes)) = some (some (.int k 0), 1, bytes)) (v : Value) (zs : List Int) (hs : a.eval s = v) (hown : Mem.Own w base e k v zs)
    (B : Nat) (A : Option Addr) (m c : Nat) (xs : List Int) (hx : a.eval x = .slice A m c) (hr : Ints w k B A m xs) (hlen : zs.length + m ≤ 17592186044416) (hby : bytes ≤ 8) (hbase : base ≤ w.heap.size)
    (h : ∀ A' n' c' w', Mem.Own w' base e k (.slice A' n' c') (zs ++ xs) → w.grownBy w' v.ownBlock → n' ≤ c' → c' ≤ maxLen → Hid ((zs ++ xs).length = n') → Ints w' k w'.heap.size A' n' (zs ++ xs) → K (a.put d (.slice A' n' c')) w') : wpOp P ops Q i K a w := by
  subst hd
  refine op_wp i hi hw ?_
  obtain ⟨v', w', hrun, h2, h3, _⟩ := run_append_ints (P := P) w base ts o.type e k bytes ht hinfo v zs hown B A m c xs hr hlen hby hbase
  obtain ⟨A', c', rfl, h4, h5, h6⟩ := h2.form
  exact Lib.wp_append_run w s x ts ts ho _ _ hs hx _ w' hrun (h _ _ _ w' h2 h3 h4 h5 (Lib.hid rfl) h6)
end
section
variable {P : Program} {S : World → Prop} {ρ : Operand → Value} {o : Oper}
theorem y_nes {t ty : TypeId} {x y : Operand} {s : ByteArray} (ho : o.op = .binOp .neq t x y ty) (hx : ρ x = .string s) (hy : ρ y = .string s) :
    ∀ w, S w → (execOp ρ o).run P w = .ok (.value (.bool false)) w := y_bin ho hx hy (fun w => by simp [eqGuard]) (fun w => by simp [binOp, Op.stringOp])
end
/-- like texts are alike -/
theorem bytes_same (B B' : Nat) (A A' : Option Addr) (n n' c c' : Nat) (zs zs' : List Int) (w : World) (h : Ints w .u8 B A n zs) (h' : Ints w .u8 B' A' n' zs') (e : zs = zs') :
    Calls Tryd.prog 18 #[.slice A n c, .slice A' n' c'] w fun e w' => e = .returned (.bool true) ∧ Below w.heap.size w w' :=
  (Help.bytes_any B B' A A' n n' c c' zs zs' w h h').mono fun _ _ ⟨h1, h2⟩ => ⟨by rw [h1]; simp [e], h2 ▸ Below.refl _ _⟩
end Go.Proofs.YtoelgcdjhekafaaDoor.Held
namespace Go.Proofs.YtoelgcdjhekafaaDoor.Held
open Go.RowKit Go.Proofs.YtoelgcdjhekafaaDoor.Mem
set_option linter.unusedVariables false
section
variable {P : Program} {ops : Array Oper} {Q : Exit → Act → World → Prop}
/-- append onto what the call owns; rows apart from it stay, and stay apart -/
theorem op_append_keep (i : Nat) (d : Option Tmp) {o : Oper} {a : Act} {w : World} {K : Act → World → Prop} {s x : Operand} (ts : TypeId) (hi : ops[i]? = some o) (hd : o.dst = d) (hw : Region.wanted o (yielded ops a.tmps) = true)
    (ho : o.op = .call { callee := .builtin .append, args := #[s, x], argTypes := #[ts, ts] }) (base : Nat) (e : TypeId) (k : IntKind) (bytes : Nat) (ht : P.underlying ts = some (.slice e))
    (hinfo : (P.info? e).map (fun i => (i.zero, i.size, i.bytes)) = some (some (.int k 0), 1, bytes)) (v : Value) (zs : List Int) (hs : a.eval s = v) (hown : Mem.Own w base e k v zs)
    (B : Nat) (A : Option Addr) (m c : Nat) (xs : List Int) (hx : a.eval x = .slice A m c) (hr : Ints w k B A m xs) (hlen : zs.length + m ≤ 17592186044416) (hby : bytes ≤ 8) (hbase : base ≤ w.heap.size)
    (h : ∀ A' n' c' w', Mem.Own w' base e k (.slice A' n' c') (zs ++ xs) → w.grownBy w' v.ownBlock → n' ≤ c' → c' ≤ maxLen → Hid ((zs ++ xs).length = n') → Ints w' k w'.heap.size A' n' (zs ++ xs) →
      (∀ p t q ys, Row w p t q ys → some p ≠ v.ownBlock → Row w' p t q ys ∧ some p ≠ (Value.slice A' n' c').ownBlock) → K (a.put d (.slice A' n' c')) w') : wpOp P ops Q i K a w := by
  subst hd
  refine op_wp i hi hw ?_
  obtain ⟨v', w', hrun, h2, h3, h3'⟩ := run_append_ints (P := P) w base ts o.type e k bytes ht hinfo v zs hown B A m c xs hr hlen hby hbase
  obtain ⟨A', c', rfl, h4, h5, h6⟩ := h2.form
  refine Lib.wp_append_run w s x ts ts ho _ _ hs hx _ w' hrun (h _ _ _ w' h2 h3 h4 h5 (Lib.hid rfl) h6 fun p t q ys hrow hne => ⟨hrow.grown h3 hne, ?_⟩)
  rcases h3' with e1 | e1
  · rw [e1]; exact hne
  · rw [e1]
    intro e2
    injection e2 with e2
    have := hrow.lt
    omega
/-- a new list of numbers, as a row of its own -/
theorem op_build_Row (i : Nat) (d : Option Tmp) {o : Oper} {a : Act} {w : World} {K : Act → World → Prop} (t e : TypeId) (len : Nat) {parts : Array (Nat × Operand)} (k : IntKind) (bytes : Nat) (zs : List Int) (hi : ops[i]? = some o) (hd : o.dst = d) (hw : Region.wanted o (yielded ops a.tmps) = true)
    (ho : o.op = .buildSlice t len parts) (hu : P.underlying t = some (.slice e)) (hinfo : (P.info? e).map (fun i => (i.zero, i.size, i.bytes)) = some (some (.int k 0), 1, bytes))
    (hp : (parts.map fun (i, x) => (i, a.eval x)).toList = ((zs.map (Value.int k)).zipIdx 0).map fun x => (x.2, x.1)) (hl : zs.length = len) (h0 : 0 < len) (hlen : len ≤ 1000) (hwf : ∀ z ∈ zs, (Lit.int k z).wf = true)
    (h : ∀ p w', Row w' p e k zs → Below w.heap.size w w' → Hid (w.heap.size ≤ p) → K (a.put d (.slice (some ⟨p, 0, none⟩) len len)) w') : wpOp P ops Q i K a w := by
  subst hd
  refine op_wp i hi hw ?_
  obtain ⟨ie, hie, hz, hsz, _⟩ := info_parts hinfo
  have hl' : (zs.map (Value.int k)).length = len := by simpa using hl
  have h' := h w.heap.size _ (Row.new w e hwf) ((Below.refl _ w).alloc (Nat.le_refl _) _) (Lib.hid (Nat.le_refl _))
  unfold arr at h'
  have h1 : ∀ v ∈ zs.map (Value.int k), v.cells = #[v] := by intro v hv; obtain ⟨z, _, rfl⟩ := List.mem_map.1 hv; rfl
  generalize zs.map (Value.int k) = vs at hp hl' h' h1
  subst hl'
  refine Go.wp_buildSlice t e vs.length parts ho vs.toArray ie (.int k 0) hu hie hz (by rw [hsz]; omega) (by rw [hsz]; omega) ?_ h'
  rw [hp]
  simp only [hsz]
  exact Go.Great.fill_flat vs _ h1 (by simp)
end
theorem apart_new {w : World} {base p : Nat} {t : TypeId} {k : IntKind} {v : Value} {zs : List Int} (h : Mem.Own w base t k v zs) (hp : w.heap.size ≤ p) : some p ≠ v.ownBlock := fun e => by
  have := (h.2.lt p e.symm).2
  omega
end Go.Proofs.YtoelgcdjhekafaaDoor.Held
namespace Go.Proofs.YtoelgcdjhekafaaDoor.Mem
open Go.RowKit
set_option linter.unusedVariables false

/-- an address without a spot, if there is room behind it -/
def Flat (A : Option Addr) (cap : Nat) : Prop := cap = 0 ∨ A = none ∨ ∃ b off, A = some ⟨b, off, none⟩
theorem Flat.head (b off cap : Nat) : Flat (some ⟨b, off, none⟩) cap := .inr (.inr ⟨b, off, rfl⟩)

section
variable {P : Program} {t e : TypeId} {A : Option Addr} {n cap : Nat}
theorem run_front (ht : P.underlying t = some (.slice e)) (hs : (P.info? e).map (·.size) = some 1) (hf : Flat A cap) {h : Nat} (hh : h ≤ cap) (w : World) :
    (Instr.sliceAt t (.slice A n cap) none (some (.int .i64 (h : Int))) none).run P w = .ok (.slice A h cap) w := by
  have he : P.elem t = e := by simp [Program.elem, ht]
  have ht' : P.underlying t = some (.slice (P.elem t)) := by rw [he]; exact ht
  obtain ⟨inf, hi, h1⟩ := Option.map_eq_some_iff.1 hs
  rw [run_sliceAt_slice w t _ _ _ _ ht', run_slice_h w t A n cap ht' .i64 _ (by omega) (by omega), he]
  have hz : (sizeOf e).run P w = .ok 1 w := by simp [sizeOf, typeInfo, hi, h1]
  rw [hz]
  simp only [Result.andThen, sliced, Nat.mul_one, Nat.sub_zero, Int.toNat_natCast]
  congr 2
  split
  · rfl
  · rcases hf with h0 | rfl | ⟨b, off, rfl⟩
    · exact absurd h0 ‹_›
    · rfl
    · simp [Addr.add]
theorem run_back (ht : P.underlying t = some (.slice e)) (hs : (P.info? e).map (·.size) = some 1) (hf : Flat A cap) (hc : n ≤ cap) {l : Nat} (hl : l ≤ n) {wi : World} {k : IntKind} {B : Nat} {zs : List Int} (h : Ints wi k B A n zs) :
    ∃ A', (∀ w, (Instr.sliceAt t (.slice A n cap) (some (.int .i64 (l : Int))) none none).run P w = .ok (.slice A' (n - l) (cap - l)) w) ∧ Flat A' (cap - l) ∧ Ints wi k B A' (n - l) (zs.drop l) := by
  have he : P.elem t = e := by simp [Program.elem, ht]
  have ht' : P.underlying t = some (.slice (P.elem t)) := by rw [he]; exact ht
  obtain ⟨inf, hi, h1⟩ := Option.map_eq_some_iff.1 hs
  refine ⟨if cap = l then A else A.map (·.add l), fun w => ?_, ?_, ?_⟩
  · rw [run_sliceAt_slice w t _ _ _ _ ht', run_slice_l w t A n cap ht' .i64 _ (by omega) (by omega), he]
    have hz : (sizeOf e).run P w = .ok 1 w := by simp [sizeOf, typeInfo, hi, h1]
    rw [hz]
    simp only [Result.andThen, sliced, Nat.mul_one, Int.toNat_natCast]
  · by_cases q : cap = l
    · exact .inl (by omega)
    · rw [if_neg q]
      rcases hf with h0 | rfl | ⟨b, off, rfl⟩
      · omega
      · exact .inr (.inl rfl)
      · exact .inr (.inr ⟨b, off + l, by simp [Addr.add]⟩)
  · refine ⟨by rw [List.length_drop, h.1], fun z hz => h.2.1 z (List.mem_of_mem_drop hz), fun h0 => ?_⟩
    obtain ⟨b, off, rfl, hb, hcell⟩ := h.2.2 (by omega)
    rw [if_neg (by omega)]
    refine ⟨b, off + l, by simp [Addr.add], hb, fun i hi => ?_⟩
    have := hcell (l + i) (by omega)
    rw [← Nat.add_assoc] at this
    rw [this]
    simp [List.getD_eq_getElem?_getD, List.getElem?_drop]
end
theorem Ints.front {w : World} {k : IntKind} {B n h : Nat} {A : Option Addr} {zs : List Int} (hi : Ints w k B A n zs) (hh : h ≤ n) : Ints w k B A h (zs.take h) := by
  refine ⟨by rw [List.length_take, hi.1]; omega, fun z hz => hi.2.1 z (List.mem_of_mem_take hz), fun h0 => ?_⟩
  obtain ⟨b, off, rfl, hb, hc⟩ := hi.2.2 (by omega)
  refine ⟨b, off, rfl, hb, fun i hi' => ?_⟩
  rw [hc i (by omega)]
  simp [List.getD_eq_getElem?_getD, hi']
theorem Own.flat {w : World} {base : Nat} {t : TypeId} {k : IntKind} {A : Option Addr} {n c : Nat} {zs : List Int} (h : Own w base t k (.slice A n c) zs) : Flat A c := by
  rcases h.2.2 with ⟨hv, _⟩ | ⟨g, cap, cur, hv, _⟩
  · injection hv with e1; exact .inr (.inl e1)
  · injection hv with e1; exact .inr (.inr ⟨g, 0, e1⟩)
/-- what the frame of a proof says of a slice that came in, as 'Flat' -/
theorem flat_of_row {kd : IntKind} {w : World} {a : Option Addr} {len cap : Nat} {zs : List Int}
    (h : (a = none ∧ len = 0 ∧ cap = 0 ∧ zs = []) ∨
      ∃ x, a = some x ∧ len ≤ cap ∧ cap ≤ maxLen ∧ zs.length = cap ∧ (∀ i, i < zs.length → w.cell? (x.add i) = some (.int kd (zs.getD i 0))) ∧ ∀ n ∈ zs, (Lit.int kd n).wf = true) : Flat a cap := by
  rcases h with ⟨rfl, rfl, rfl, rfl⟩ | ⟨x, rfl, hl, hm, hz, hc, hw⟩
  · exact .inl rfl
  · rcases Nat.eq_zero_or_pos cap with h0 | h0
    · exact .inl h0
    · obtain ⟨b, off, spot⟩ := x
      have h0 := hc 0 (by omega)
      have hspot : spot = none := by simpa [Addr.add] using World.cell?_spot h0
      subst hspot
      exact .inr (.inr ⟨b, off, rfl⟩)
end Go.Proofs.YtoelgcdjhekafaaDoor.Mem
