/-
  The document's own may, Size and Pack of blocks, by their contracts. Conditions: the slices read as lists of records.
  The document's own Size of blocks (package dominoref10) by its contract. No conditions.
  What the frame of a proof says of a list of records that came in. No conditions beyond those stated.
  The functions Own and Kept of package dominohelp on bytes, each by its contract. Conditions: the slices read as lists of bytes, of at most 2^40 bytes.
  Where every activation may run, what is shown of one operation without a fence holds within a round, and within an iterator, too: no program here. No conditions beyond those stated.
  Package block: which sizes may be, how long blocks are, and the iterator over records with dead ones behind them, by their contracts. Conditions: the slices read as lists of records.
  Numbers at a block that is none of a set, as numbers below the heap's end: no program here. No conditions.
  The iterator over packed records of package block, by its contract: it hands out what each 32 bytes are taken as, with the error. Conditions: as many bytes as up to 8 records have.
-/
import Derived.Test.YtjelacblnjbfgaaB8
import Derived.Test.YtjelacblnjbfgaaB9
import Derived.Test.YtjelacblnjbfgaaB5
import Derived.WideShapes
import Derived.ChangeArms
import Derived.Laws.Slices
import Derived.Test.YtjelacblnjbfgaaB3
import Derived.Test.YtjelacblnjbfgaaB4
import Derived.Test.YtjelacblnjbfgaaB7
import Derived.Test.YtjelacblnjbfgaaB2
namespace Go.Proofs.Ytjelacblnjbfgaa.Rs
open Go.RowKit Go.Shelf Go.Proofs.Ytjelacblnjbfgaa.Mem Go.Proofs.Ytjelacblnjbfgaa.Held Go.Proofs.Ytjelacblnjbfgaa.Rc Go.Proofs.Ytjelacblnjbfgaa.Po Go.Proofs.Ytjelacblnjbfgaa
set_option linter.unusedVariables false
attribute [local irreducible] wpList wpListIn Calls

/-- with dead ones behind -/
def pad (rs : List R) (size : Nat) : List R := rs ++ List.replicate (size - rs.length) RD
theorem pad_length {rs : List R} {size : Nat} (h : rs.length ≤ size) : (pad rs size).length = size := by simp [pad]; omega
theorem pad_lt {rs : List R} {size i : Nat} (h : i < rs.length) : (pad rs size).getD i R0 = rs.getD i R0 := by
  simp only [pad, List.getD_eq_getElem?_getD]
  rw [List.getElem?_append_left h]
theorem pad_ge {rs : List R} {size i : Nat} (h : ¬ i < rs.length) (hi : i < size) : (pad rs size).getD i R0 = RD := by
  simp only [pad, List.getD_eq_getElem?_getD]
  rw [List.getElem?_append_right (by omega), List.getElem?_replicate, if_pos (by omega)]
  rfl
def packR (r : R) : List Int := packed r.d r.k r.v r.s
theorem packR_length (r : R) : (packR r).length = 32 := packed_length _ _ _ _
/-- the bytes of a block -/
def packs (rs : List R) : List Int := rs.flatMap packR
theorem packs_length : ∀ rs : List R, (packs rs).length = 32 * rs.length
  | [] => rfl
  | r :: rs => by
    have := packs_length rs
    simp only [packs, List.flatMap_cons, List.length_append, packR_length, List.length_cons] at this ⊢
    omega
theorem packs_snoc (rs : List R) {k : Nat} (h : k < rs.length) : packs (rs.take (k + 1)) = packs (rs.take k) ++ packR (rs.getD k R0) := by
  rw [packs, packs, List.take_add_one, List.getElem?_eq_getElem h, List.flatMap_append, List.getD_eq_getElem?_getD, List.getElem?_eq_getElem h]
  simp
theorem packs_wf (rs : List R) : ∀ z ∈ packs rs, (Lit.int .u8 z).wf = true := fun z hz => by
  obtain ⟨r, _, h⟩ := List.mem_flatMap.1 hz
  exact packed_wf _ _ _ _ z h
def mayS (size : Int) : Bool := decide (1 ≤ size) && decide (size ≤ 8)
theorem may_any (size : Int) (w : World) : Calls Try.prog 22 #[.int .i64 size] w fun e w' => e = .returned (.bool (mayS size)) ∧ w = w' := by
  by_cases h1 : 1 ≤ size
  · by_cases h8 : size ≤ 8
    · have hm : mayS size = true := by simp [mayS, h1, h8]
      have HM := Lib.hid hm
      clear hm
      go_enter Try.func22, Try.ntmps22
      go_wp2_with fail
      go_ret
      exact ⟨Mem.ret_bool HM.out.symm, rfl⟩
    · have hm : mayS size = false := by simp [mayS, h8]
      have HM := Lib.hid hm
      clear hm
      go_enter Try.func22, Try.ntmps22
      go_wp2_with fail
      go_ret
      exact ⟨Mem.ret_bool HM.out.symm, rfl⟩
  · have hm : mayS size = false := by simp [mayS, h1]
    have HM := Lib.hid hm
    clear hm
    go_enter Try.func22, Try.ntmps22
    go_wp2_with fail
    go_ret
    exact ⟨Mem.ret_bool HM.out.symm, rfl⟩
theorem rdead_any (w : World) : Calls Try.prog 23 #[] w fun e w' => e = .returned (.agg #[.bool RD.d, .int .i64 RD.k, .int .i64 RD.v, .int .i64 RD.s]) ∧ Below w.heap.size w w' := by
  go_enter Try.func23, Try.ntmps23
  go_wp2_with (first
    | (refine wpList_alloc_blk (w := w) rfl 27 rfl _ zero_rec ?_; intro w1 q1 g1 z1)
    | (refine wpList_build_blk rfl 27 _ rfl #[.bool true, .int .i64 0, .int .i64 0, .int .i64 0] (by kernel_rfl) ?_)
    | (refine wpList_store_blk (w := w1) rfl 27 _ _ rfl w.heap.size 4 rfl 27 _ #[.bool true, .int .i64 0, .int .i64 0, .int .i64 0] rfl q1 info_rec rfl rfl (by kernel_rfl) ?_; intro w2 q2 g2 z2))
  exact bodyPost_ret (results_blk rfl _ _ w.heap.size 4 _ _ rfl q2 _ Try.underlying27 rfl info_rec rfl) rfl ⟨rfl, ((Below.refl _ w).grown g1 (Nat.le_refl _) (by simp)).grown g2 g1.size (fun r e => by cases e; exact Nat.le_refl _)⟩

theorem rpacks_bad (A : Option Addr) (n c : Nat) (size : Int) (w : World) (hs : mayS size = false) :
    Calls Try.prog 9 #[.slice A n c, .int .i64 size] w fun e w' => e = .returned (.tuple #[.slice none 0 0, .int .i64 1]) ∧ w = w' := by
  go_enter Try.func9, Try.ntmps9
  go_wp2_with fail
  refine (may_any size w).mono ?_
  rintro e w1 ⟨rfl, rfl⟩
  rw [hs]
  go_wp2_with fail
  exact bodyPost_ret (results_tmp2 rfl _ _ _) rfl ⟨rfl, rfl⟩
theorem rpacks_long (A : Option Addr) (n c : Nat) (size : Int) (w : World) (hs : mayS size = true) (hn : size < (n : Int)) :
    Calls Try.prog 9 #[.slice A n c, .int .i64 size] w fun e w' => e = .returned (.tuple #[.slice none 0 0, .int .i64 5]) ∧ w = w' := by
  go_enter Try.func9, Try.ntmps9
  go_wp2_with fail
  refine (may_any size w).mono ?_
  rintro e w1 ⟨rfl, rfl⟩
  rw [hs]
  go_wp2_with fail
  exact bodyPost_ret (results_tmp2 rfl _ _ _) rfl ⟨rfl, rfl⟩

set_option maxRecDepth 100000 in
set_option maxHeartbeats 4000000 in
theorem rpacks_ok (B : Nat) (A : Option Addr) (n c : Nat) (rs : List R) (size : Nat) (w : World) (h : Recs w B A n rs) (hB : B ≤ w.heap.size) (h1 : 1 ≤ size) (h8 : size ≤ 8) (hn : n ≤ size) :
    Calls Try.prog 9 #[.slice A n c, .int .i64 (size : Int)] w fun e w' => ∃ A' c', e = .returned (.tuple #[.slice A' (32 * size) c', .int .i64 0]) ∧ Mem.Own w' w.heap.size 5 .u8 (.slice A' (32 * size) c') (packs (pad rs size)) ∧ Below w.heap.size w w' := by
  have hs : mayS (size : Int) = true := by simp [mayS]; omega
  have hni : ¬ (size : Int) < (n : Int) := by omega
  have hnd : decide (size < n) = false := by simp; omega
  have HL := Lib.hid h.1
  have HP := Lib.hid (pad_length (rs := rs) (size := size) (by rw [h.1]; exact hn))
  go_enter Try.func9, Try.ntmps9
  go_wp2_with fail
  refine (may_any (size : Int) w).mono ?_
  rintro e w1 ⟨rfl, rfl⟩
  rw [hs]
  go_wp2_with fail
  go_loopw [6, 7] (fun u i wr => ∃ (k n1 : Nat) (A1 : Option Addr) (c1 : Nat), k ≤ size ∧ n1 = 32 * k ∧ u = .slice A1 n1 c1 ∧ i = .int .i64 k ∧ Mem.Own wr w.heap.size 5 .u8 (.slice A1 n1 c1) (packs ((pad rs size).take k)) ∧ Below w.heap.size w wr) (fun _ i _ => size - (intOf i).toNat)
  case atStart => exact ⟨0, 0, none, 0, by omega, rfl, rfl, rfl, by rw [List.take_zero]; exact Mem.Own.nil _ _ _ _, Below.refl _ _⟩
  case round =>
    obtain ⟨k, n1, A1, c1, hk, hn1, rfl, rfl, ok, bk⟩ := hrel
    have HN1 := Lib.hid hn1
    clear hn1
    by_cases hlt : k < size
    · have hlt' : (k : Int) < (size : Int) := by omega
      have hk0 : (0 : Int) ≤ (k : Int) := by omega
      have HS := Lib.hid (packs_snoc (pad rs size) (k := k) (by rw [HP.out]; exact hlt))
      have HLN := Lib.hid (show (packs ((pad rs size).take k)).length = 32 * k by rw [packs_length, List.length_take, HP.out]; omega)
      have HLN2 := Lib.hid (show (packs ((pad rs size).take (k + 1))).length = 32 * (k + 1) by rw [packs_length, List.length_take, HP.out]; omega)
      go_wp2_with fail
      refine (rdead_any wr).mono ?_
      rintro e w1 ⟨rfl, b1⟩
      have ok := ok.below b1
      have bk := bk.trans (b1.mono bk.size)
      clear b1
      by_cases hkn : k < n
      · rw [pad_lt (by rw [HL.out]; exact hkn)] at HS
        obtain ⟨b, off, rfl, hb, hx⟩ := (h.below (bk.mono hB)).at_ hkn
        have hkn' : (k : Int) < (n : Int) := by omega
        generalize rs.getD k R0 = x at hx HS
        have hbw : b < w1.heap.size := Nat.lt_of_lt_of_le hb (Nat.le_trans hB bk.size)
        go_wp2_with (first
          | (refine wpList_alloc_blk (w := w1) rfl 27 rfl _ zero_rec ?_; intro w2 q2 g2 z2)
          | (refine wpList_store_blk (w := w2) rfl 27 _ _ rfl w1.heap.size 4 rfl 27 _ _ rfl q2 info_rec rfl rfl (by kernel_rfl) ?_; intro w3 q3 g3 z3; have x3 : w3.rangeAt b (off + k * 4) x.cells := range_below (B := w1.heap.size) hx (((Below.refl _ w1).grown g2 (Nat.le_refl _) (by simp)).grown g3 g2.size (fun r e => by cases e; exact Nat.le_refl _)) hbw)
          | (refine wpList_run (w := w3) rfl (v := .pointer (some ⟨b, off + k * 4, none⟩)) (Held.y_addr (S := fun _ => True) rfl rfl rfl (run_addr_of (P := Try.prog) 22 27 b off n c k 4 .i64 Try.underlying22 (by kernel_rfl) hkn) _ trivial) ?_)
          | (refine wpList_run (w := w3) rfl (v := .agg #[.bool x.d, .int .i64 x.k, .int .i64 x.v, .int .i64 x.s]) (y_load_range (S := fun W => W = w3) (n := 4) (cs := x.cells) rfl rfl Try.underlying27 rfl (by kernel_rfl) rfl (fun W hW => by rw [hW]; exact x3) _ rfl) ?_)
          | (refine wpList_store_blk (w := w3) rfl 27 _ _ rfl w1.heap.size 4 rfl 27 _ #[.bool x.d, .int .i64 x.k, .int .i64 x.v, .int .i64 x.s] rfl q3 info_rec rfl rfl (by kernel_rfl) ?_; intro w4 q4 g4 z4; have o4 := ((ok.kept g2 (by cases (Value.slice A1 n1 c1).ownBlock <;> simp)).kept g3 (by cases hq : (Value.slice A1 n1 c1).ownBlock with | none => exact .inl rfl | some b => exact .inr (fun e => by injection e with e; have := (ok.2.lt b hq).2; omega))).kept g4 (by cases hq : (Value.slice A1 n1 c1).ownBlock with | none => exact .inl rfl | some b => exact .inr (fun e => by injection e with e; have := (ok.2.lt b hq).2; omega)); have bw4 := ((bk.grown g2 bk.size (by simp)).grown g3 (Nat.le_trans bk.size g2.size) (fun r e => by cases e; exact bk.size)).grown g4 (Nat.le_trans (Nat.le_trans bk.size g2.size) g3.size) (fun r e => by cases e; exact bk.size); clear g2 g3 g4 z2 z3 z4 q2 q3 x3)
          | (refine wpList_load_blk (w := w4) rfl 27 _ rfl w1.heap.size 4 rfl 27 _ q4 _ Try.underlying27 rfl (by kernel_rfl) rfl ?_))
        refine (rpack_any x.d x.k x.v x.s w4).mono ?_
        rintro e w5 ⟨rfl, b5⟩
        have o5 := o4.below b5
        have bw5 := bw4.trans (b5.mono bw4.size)
        clear b5 q4 o4
        go_wp2_with (first
          | (refine wpList_alloc_Row (w := w5) rfl 46 rfl .u8 32 zero_32 ?_; intro w6 r6 g6 z6)
          | (refine wpList_store_RowTo (w := w6) rfl 46 _ _ rfl w5.heap.size rfl 46 .u8 _ (packed x.d x.k x.v x.s) rfl r6 32 info_32 (packed_length _ _ _ _) (by simp) (packed_wf _ _ _ _) ?_; intro w7 r7 g7 z7; have o7 := (o5.kept g6 (by cases (Value.slice A1 n1 c1).ownBlock <;> simp)).kept g7 (by cases hq : (Value.slice A1 n1 c1).ownBlock with | none => exact .inl rfl | some b => exact .inr (fun e => by injection e with e; have := (o5.2.lt b hq).2; omega)); have bw7 := (bw5.grown g6 bw5.size (by simp)).grown g7 (Nat.le_trans bw5.size g6.size) (fun r e => by cases e; exact bw5.size); have i7 := r7.ints (n := 32) (by rw [packed_length]; omega); rw [List.take_of_length_le (by rw [packed_length]; omega)] at i7)
          | (refine wpList_run (w := w7) rfl (v := .slice (some ⟨w5.heap.size, 0, none⟩) 32 32) (Held.y_slice (S := fun _ => True) rfl (fun W => run_slice_arr_all (P := Try.prog) 46 5 32 w5.heap.size W Try.underlying46 (by kernel_rfl) (by omega)) _ trivial) ?_)
          | (at_builtin; refine wpList_append_ints w7 rfl _ _ 23 rfl w.heap.size 5 .u8 1 Try.underlying23 Help.info_u8 (.slice A1 n1 c1) (packs ((pad rs size).take k)) rfl o7 w7.heap.size (some ⟨w5.heap.size, 0, none⟩) 32 32 (packed x.d x.k x.v x.s) rfl i7 (by rw [HLN.out]; omega) (by omega) bw7.size ?_; intro v8 w8 o8 g8 t8; rw [show packs ((pad rs size).take k) ++ packed x.d x.k x.v x.s = packs ((pad rs size).take (k + 1)) from HS.out.symm] at o8; obtain ⟨A8, c8, rfl, _⟩ := o8.form; rw [HLN2.out] at o8 ⊢; have b8 := bw7.grown g8 bw7.size (fun r e => (o7.2.lt r e).1); clear g8 t8 g6 g7 z6 z7 r6 r7 i7 o7 o5))
        go_roundw
        case rel => exact ⟨k + 1, 32 * (k + 1), A8, c8, by omega, rfl, rfl, by go_num, o8, b8⟩
        case measure => simp [intOf]; omega
      · rw [pad_ge (by rw [HL.out]; exact hkn) hlt] at HS
        have hkn' : ¬ (k : Int) < (n : Int) := by omega
        go_wp2_with (first
          | (refine wpList_alloc_blk (w := w1) rfl 27 rfl _ zero_rec ?_; intro w2 q2 g2 z2)
          | (refine wpList_store_blk (w := w2) rfl 27 _ _ rfl w1.heap.size 4 rfl 27 _ #[.bool RD.d, .int .i64 RD.k, .int .i64 RD.v, .int .i64 RD.s] rfl q2 info_rec rfl rfl (by kernel_rfl) ?_; intro w4 q4 g3 z3; have o4 := (ok.kept g2 (by cases (Value.slice A1 n1 c1).ownBlock <;> simp)).kept g3 (by cases hq : (Value.slice A1 n1 c1).ownBlock with | none => exact .inl rfl | some b => exact .inr (fun e => by injection e with e; have := (ok.2.lt b hq).2; omega)); have bw4 := (bk.grown g2 bk.size (by simp)).grown g3 (Nat.le_trans bk.size g2.size) (fun r e => by cases e; exact bk.size); clear g2 g3 z2 z3 q2)
          | (refine wpList_load_blk (w := w4) rfl 27 _ rfl w1.heap.size 4 rfl 27 _ q4 _ Try.underlying27 rfl (by kernel_rfl) rfl ?_))
        refine (rpack_any RD.d RD.k RD.v RD.s w4).mono ?_
        rintro e w5 ⟨rfl, b5⟩
        have o5 := o4.below b5
        have bw5 := bw4.trans (b5.mono bw4.size)
        clear b5 q4 o4
        go_wp2_with (first
          | (refine wpList_alloc_Row (w := w5) rfl 46 rfl .u8 32 zero_32 ?_; intro w6 r6 g6 z6)
          | (refine wpList_store_RowTo (w := w6) rfl 46 _ _ rfl w5.heap.size rfl 46 .u8 _ (packed RD.d RD.k RD.v RD.s) rfl r6 32 info_32 (packed_length _ _ _ _) (by simp) (packed_wf _ _ _ _) ?_; intro w7 r7 g7 z7; have o7 := (o5.kept g6 (by cases (Value.slice A1 n1 c1).ownBlock <;> simp)).kept g7 (by cases hq : (Value.slice A1 n1 c1).ownBlock with | none => exact .inl rfl | some b => exact .inr (fun e => by injection e with e; have := (o5.2.lt b hq).2; omega)); have bw7 := (bw5.grown g6 bw5.size (by simp)).grown g7 (Nat.le_trans bw5.size g6.size) (fun r e => by cases e; exact bw5.size); have i7 := r7.ints (n := 32) (by rw [packed_length]; omega); rw [List.take_of_length_le (by rw [packed_length]; omega)] at i7)
          | (refine wpList_run (w := w7) rfl (v := .slice (some ⟨w5.heap.size, 0, none⟩) 32 32) (Held.y_slice (S := fun _ => True) rfl (fun W => run_slice_arr_all (P := Try.prog) 46 5 32 w5.heap.size W Try.underlying46 (by kernel_rfl) (by omega)) _ trivial) ?_)
          | (at_builtin; refine wpList_append_ints w7 rfl _ _ 23 rfl w.heap.size 5 .u8 1 Try.underlying23 Help.info_u8 (.slice A1 n1 c1) (packs ((pad rs size).take k)) rfl o7 w7.heap.size (some ⟨w5.heap.size, 0, none⟩) 32 32 (packed RD.d RD.k RD.v RD.s) rfl i7 (by rw [HLN.out]; omega) (by omega) bw7.size ?_; intro v8 w8 o8 g8 t8; rw [show packs ((pad rs size).take k) ++ packed RD.d RD.k RD.v RD.s = packs ((pad rs size).take (k + 1)) from HS.out.symm] at o8; obtain ⟨A8, c8, rfl, _⟩ := o8.form; rw [HLN2.out] at o8 ⊢; have b8 := bw7.grown g8 bw7.size (fun r e => (o7.2.lt r e).1); clear g8 t8 g6 g7 z6 z7 r6 r7 i7 o7 o5))
        go_roundw
        case rel => exact ⟨k + 1, 32 * (k + 1), A8, c8, by omega, rfl, rfl, by go_num, o8, b8⟩
        case measure => simp [intOf]; omega
    · have hks : k = size := by omega
      subst hks
      have e := HN1.out
      subst e
      rw [List.take_of_length_le (by rw [HP.out]; omega)] at ok
      go_wp2_with fail
      exact bodyPost_ret (results_tmp2 rfl _ _ _) rfl ⟨A1, c1, rfl, ok, bk⟩

/-- the bytes of record i of a block -/
def word (zs : List Int) (i : Nat) : List Int := (zs.drop (32 * i)).take 32
theorem word_length {zs : List Int} {i size : Nat} (hl : zs.length = 32 * size) (hi : i < size) : (word zs i).length = 32 := by
  rw [word, List.length_take, List.length_drop, hl]
  omega
/-- the record that bytes are, if they are one -/
def recT (zs : List Int) : R := ⟨fld zs 0 == 1, wrap64 (fld zs 1), wrap64 (fld zs 2), wrap64 (fld zs 3)⟩
theorem recT_wf (zs : List Int) : (recT zs).wf := ⟨wrap64_wf _, wrap64_wf _, wrap64_wf _⟩
def allOk (zs : List Int) (size : Nat) : Bool := (List.range size).all fun i => mayB (word zs i)
theorem allOk_iff {zs : List Int} {size : Nat} : allOk zs size = true ↔ ∀ i, i < size → mayB (word zs i) = true := by simp [allOk]
/-- the records of a block's bytes -/
def recsOf (zs : List Int) (k : Nat) : List R := (List.range k).map fun i => recT (word zs i)
theorem recsOf_length (zs : List Int) (k : Nat) : (recsOf zs k).length = k := by simp [recsOf]
theorem recsOf_snoc (zs : List Int) (k : Nat) : recsOf zs (k + 1) = recsOf zs k ++ [recT (word zs k)] := by simp [recsOf, List.range_succ]
theorem recsOf_wf (zs : List Int) (k : Nat) : ∀ r ∈ recsOf zs k, r.wf := fun r hr => by
  obtain ⟨i, _, rfl⟩ := List.mem_map.1 hr
  exact recT_wf _
/-- what a block's bytes are taken as, and the error -/
def takesR (zs : List Int) (size : Int) : List R := if mayS size = true ∧ (zs.length : Int) = 32 * size ∧ allOk zs size.toNat = true then recsOf zs size.toNat else []
def takesE (zs : List Int) (size : Int) : Int := if mayS size = false then 1 else if (zs.length : Int) < 32 * size then 3 else if 32 * size < (zs.length : Int) then 4 else if allOk zs size.toNat = true then 0 else 4
theorem ints_mid {w : World} {B b off n : Nat} {zs : List Int} (hi : Ints w .u8 B (some ⟨b, off, none⟩) n zs) {o m : Nat} (hx : o + m ≤ n) (hm : 0 < m) : Ints w .u8 B (some ⟨b, off + o, none⟩) m ((zs.drop o).take m) := by
  refine ⟨by rw [List.length_take, List.length_drop, hi.1]; omega, fun z hz => hi.2.1 z (List.mem_of_mem_drop (List.mem_of_mem_take hz)), fun _ => ?_⟩
  obtain ⟨b', off', e, hb, hcc⟩ := hi.2.2 (by omega)
  injection e with e
  injection e with e1 e2
  subst e1
  subst e2
  refine ⟨b, off + o, rfl, hb, fun i hi8 => ?_⟩
  rw [Nat.add_assoc, hcc (o + i) (by omega)]
  simp [List.getD_eq_getElem?_getD, hi8]

theorem rtakes_bad (A : Option Addr) (n c : Nat) (size : Int) (w : World) (hs : mayS size = false) :
    Calls Try.prog 11 #[.slice A n c, .int .i64 size] w fun e w' => e = .returned (.tuple #[.slice none 0 0, .int .i64 1]) ∧ w = w' := by
  go_enter Try.func11, Try.ntmps11
  go_wp2_with fail
  refine (may_any size w).mono ?_
  rintro e w1 ⟨rfl, rfl⟩
  rw [hs]
  go_wp2_with fail
  exact bodyPost_ret (results_tmp2 rfl _ _ _) rfl ⟨rfl, rfl⟩
theorem rtakes_short (A : Option Addr) (n c : Nat) (size : Int) (w : World) (hs : mayS size = true) (hn : (n : Int) < 32 * size) :
    Calls Try.prog 11 #[.slice A n c, .int .i64 size] w fun e w' => e = .returned (.tuple #[.slice none 0 0, .int .i64 3]) ∧ w = w' := by
  have hb : 1 ≤ size ∧ size ≤ 8 := by simpa [mayS] using hs
  go_enter Try.func11, Try.ntmps11
  go_wp2_with fail
  refine (may_any size w).mono ?_
  rintro e w1 ⟨rfl, rfl⟩
  rw [hs]
  go_wp2_with fail
  exact bodyPost_ret (results_tmp2 rfl _ _ _) rfl ⟨rfl, rfl⟩
theorem rtakes_long (A : Option Addr) (n c : Nat) (size : Int) (w : World) (hs : mayS size = true) (hn : 32 * size < (n : Int)) :
    Calls Try.prog 11 #[.slice A n c, .int .i64 size] w fun e w' => e = .returned (.tuple #[.slice none 0 0, .int .i64 4]) ∧ w = w' := by
  have hb : 1 ≤ size ∧ size ≤ 8 := by simpa [mayS] using hs
  have hn' : ¬ (n : Int) < 32 * size := by omega
  go_enter Try.func11, Try.ntmps11
  go_wp2_with fail
  refine (may_any size w).mono ?_
  rintro e w1 ⟨rfl, rfl⟩
  rw [hs]
  go_wp2_with fail
  exact bodyPost_ret (results_tmp2 rfl _ _ _) rfl ⟨rfl, rfl⟩

set_option maxRecDepth 100000 in
set_option maxHeartbeats 4000000 in
theorem rtakes_at (B : Nat) (b off c : Nat) (zs : List Int) (size : Nat) (w : World) (h : Ints w .u8 B (some ⟨b, off, none⟩) (32 * size) zs) (hb : b < B) (hB : B ≤ w.heap.size) (hc : 32 * size ≤ c) (h1 : 1 ≤ size) (h8 : size ≤ 8) :
    Calls Try.prog 11 #[.slice (some ⟨b, off, none⟩) (32 * size) c, .int .i64 (size : Int)] w fun e w' => ∃ A' n' c', e = .returned (.tuple #[.slice A' n' c', .int .i64 (if allOk zs size = true then 0 else 4)]) ∧ OwnR w' w.heap.size (.slice A' n' c') (if allOk zs size = true then recsOf zs size else []) ∧ Below w.heap.size w w' := by
  have hs : mayS (size : Int) = true := by simp [mayS]; omega
  have HL := Lib.hid h.1
  have hsz : (size : Int) ≤ 8 := by omega
  have hmul : ((32 * size : Nat) : Int) = 32 * (size : Int) := by omega
  obtain ⟨n, hn⟩ : ∃ n, 32 * size = n := ⟨_, rfl⟩
  rw [hn] at h hc hmul HL ⊢
  have HN := Lib.hid hn
  clear hn
  have hlt0 : ¬ (n : Int) < 32 * (size : Int) := by omega
  have hgt0 : ¬ 32 * (size : Int) < (n : Int) := by omega
  have hld : decide ((n : Int) < 32 * (size : Int)) = false := by simp; omega
  have hgd : decide (32 * (size : Int) < (n : Int)) = false := by simp; omega
  clear hmul
  obtain ⟨E, hE⟩ : ∃ E, (if allOk zs size = true then (0 : Int) else 4) = E := ⟨_, rfl⟩
  obtain ⟨RR, hRR⟩ : ∃ RR, (if allOk zs size = true then recsOf zs size else []) = RR := ⟨_, rfl⟩
  rw [hE, hRR]
  have HEE := Lib.hid hE
  have HRR := Lib.hid hRR
  clear hE hRR
  go_enter Try.func11, Try.ntmps11
  go_wp2_with fail
  refine (may_any (size : Int) w).mono ?_
  rintro e w1 ⟨rfl, rfl⟩
  rw [hs]
  go_wp2_with fail
  go_loopw [6, 7] (fun u i wr => ∃ (k : Nat) (A1 : Option Addr) (c1 : Nat), k ≤ size ∧ u = .slice A1 k c1 ∧ i = .int .i64 k ∧ OwnR wr w.heap.size (.slice A1 k c1) (recsOf zs k) ∧ Hid (∀ i, i < k → mayB (word zs i) = true) ∧ Below w.heap.size w wr) (fun _ i _ => size - (intOf i).toNat)
  case atStart => exact ⟨0, none, 0, by omega, rfl, rfl, OwnR.nil _ _, Lib.hid (fun i hi => absurd hi (by omega)), Below.refl _ _⟩
  case round =>
    obtain ⟨k, A1, c1, hk, rfl, rfl, ok, hall, bk⟩ := hrel
    by_cases hlt : k < size
    · have hlt' : (k : Int) < (size : Int) := by omega
      have hk0 : (0 : Int) ≤ (k : Int) := by omega
      have hkn : 32 * k + 32 ≤ n := by have := HN.out; omega
      have iw := ints_mid (h.below (bk.mono hB)) (o := 32 * k) (m := 32) hkn (by omega)
      have hsl : ∀ W, (Instr.sliceAt 23 (.slice (some ⟨b, off, none⟩) n c) (some (.int .i64 (32 * (k : Int)))) (some (.int .i64 (32 * (k : Int) + 32))) none).run Try.prog W = .ok (.slice (some ⟨b, off + 32 * k, none⟩) 32 (c - 32 * k)) W := fun W => by
        have := run_midO (P := Try.prog) Try.underlying23 Rc.size_u8 b off n (cap := c) (l := 32 * k) (h := 32 * k + 32) (by omega) (by omega) (by omega) W
        rwa [show 32 * k + 32 - 32 * k = 32 by omega] at this
      have hc32 : 32 ≤ c - 32 * k := by omega
      go_wp2_with (refine wpList_run (w := wr) rfl (v := .slice (some ⟨b, off + 32 * k, none⟩) 32 (c - 32 * k)) (Held.y_slice (S := fun _ => True) rfl hsl _ trivial) ?_)
      refine (rtake_any B (some ⟨b, off + 32 * k, none⟩) 32 (c - 32 * k) _ wr iw (Nat.le_trans hB bk.size) hc32 (by omega)).mono ?_
      rintro e w1 ⟨rfl, b1⟩
      have ok := ok.below b1
      have bk := bk.trans (b1.mono bk.size)
      have hwl := word_length (i := k) (by rw [HL.out, HN.out]) hlt
      clear b1 iw hsl
      by_cases hm : mayB (word zs k) = true
      · have HC := Lib.hid (show takenC ((zs.drop (32 * k)).take 32) = #[.bool (recT (word zs k)).d, .int .i64 (recT (word zs k)).k, .int .i64 (recT (word zs k)).v, .int .i64 (recT (word zs k)).s] by
          show takenC (word zs k) = _
          unfold takenC
          rw [if_pos ⟨hwl, hm⟩]
          rfl)
        have HE := Lib.hid (show takenE ((zs.drop (32 * k)).take 32) = 0 by
          show takenE (word zs k) = 0
          unfold takenE
          rw [if_neg (by omega), if_pos ⟨hwl, hm⟩])
        have HALL := Lib.hid (show ∀ i, i < k + 1 → mayB (word zs i) = true from fun i hi => by
          by_cases hik : i < k
          · exact hall.out i hik
          · rw [show i = k by omega]; exact hm)
        have HS := Lib.hid (recsOf_snoc zs k)
        have hrw := recT_wf (word zs k)
        have HRL := Lib.hid (recsOf_length zs k)
        have HRL2 := Lib.hid (recsOf_length zs (k + 1))
        rw [HC.out, HE.out]
        generalize recT (word zs k) = x at HC HS hrw
        clear hm hall hwl HC
        go_wp2_with (first
          | (refine wpList_alloc_blk (w := w1) rfl 27 rfl _ zero_rec ?_; intro w2 q2 g2 z2)
          | (refine wpList_store_blk (w := w2) rfl 27 _ _ rfl w1.heap.size 4 rfl 27 _ #[.bool x.d, .int .i64 x.k, .int .i64 x.v, .int .i64 x.s] rfl q2 info_rec rfl rfl (by kernel_rfl) ?_; intro w3 q3 g3 z3; have o3 := (ok.kept g2 (by cases (Value.slice A1 k c1).ownBlock <;> simp)).kept g3 (by cases hq : (Value.slice A1 k c1).ownBlock with | none => exact .inl rfl | some b => exact .inr (fun e => by injection e with e; have := (ok.lt b hq).2; omega)); have b3 := (bk.grown g2 bk.size (by simp)).grown g3 (Nat.le_trans bk.size g2.size) (fun r e => by cases e; exact bk.size))
          | (refine wpList_load_blk (w := w3) rfl 27 _ rfl w1.heap.size 4 rfl 27 _ q3 _ Try.underlying27 rfl (by kernel_rfl) rfl ?_)
          | (refine wpList_build_rec (w := w3) rfl _ rfl x rfl ?_; intro w4 q4 g4 z4; have o4 := o3.kept g4 (by cases (Value.slice A1 k c1).ownBlock <;> simp); have b4 := b3.grown g4 b3.size (by simp); have i4 : Recs w4 w4.heap.size (some ⟨w3.heap.size, 0, none⟩) 1 [x] := recs_of_blk (rs := [x]) (qs := []) (by rw [List.append_nil, flat_one]; exact q4) (fun r hr => by rw [List.mem_singleton.1 hr]; exact hrw))
          | (at_builtin; refine wpList_append_recs (w := w4) rfl _ _ rfl w.heap.size w4.heap.size w3.heap.size 0 1 1 (.slice A1 k c1) (recsOf zs k) [x] rfl rfl o4 i4 (by rw [HRL.out]; omega) b4.size ?_; intro v5 w5 o5 g5 t5; rw [← HS.out] at o5; obtain ⟨A5, c5, rfl, _⟩ := o5.form; rw [HRL2.out] at o5 ⊢; have b5 := b4.grown g5 b4.size (fun r e => (o4.lt r e).1); clear g5 t5 g4 g3 g2 z2 z3 z4 q2 q3 q4 i4 o4 o3 b3 b4))
        go_roundw
        case rel => exact ⟨k + 1, A5, c5, by omega, rfl, by go_num, o5, HALL, b5⟩
        case measure => simp [intOf]; omega
      · have HC := Lib.hid (show takenC ((zs.drop (32 * k)).take 32) = noneC by
          show takenC (word zs k) = _
          unfold takenC
          rw [if_neg (fun h => hm h.2)])
        have HE := Lib.hid (show takenE ((zs.drop (32 * k)).take 32) = 4 by
          show takenE (word zs k) = 4
          unfold takenE
          rw [if_neg (by omega), if_neg (fun h => hm h.2)])
        have HA := Lib.hid (show allOk zs size = false by
          cases hq : allOk zs size
          · rfl
          · exact absurd (allOk_iff.1 hq k hlt) hm)
        rw [HC.out, HE.out]
        clear hm hall hwl HC
        go_wp2_with (first
          | (refine wpList_alloc_blk (w := w1) rfl 27 rfl _ zero_rec ?_; intro w2 q2 g2 z2)
          | (refine wpList_store_blk (w := w2) rfl 27 _ _ rfl w1.heap.size 4 rfl 27 _ noneC rfl q2 info_rec rfl rfl (by kernel_rfl) ?_; intro w3 q3 g3 z3; have b3 := (bk.grown g2 bk.size (by simp)).grown g3 (Nat.le_trans bk.size g2.size) (fun r e => by cases e; exact bk.size)))
        exact bodyPost_ret (results_tmp2 rfl _ _ _) rfl ⟨none, 0, 0, by rw [← HEE.out, HA.out]; rfl, by rw [← HRR.out, HA.out]; exact OwnR.nil _ _, b3⟩
    · have hks : k = size := by omega
      subst hks
      have HA := Lib.hid (allOk_iff.2 hall.out)
      go_wp2_with fail
      exact bodyPost_ret (results_tmp2 rfl _ _ _) rfl ⟨A1, k, c1, by rw [← HEE.out, HA.out]; rfl, by rw [← HRR.out, HA.out]; exact ok, bk⟩
theorem rtakes_any (B : Nat) (A : Option Addr) (n c : Nat) (zs : List Int) (size : Int) (w : World) (h : Ints w .u8 B A n zs) (hB : B ≤ w.heap.size) (hc : n ≤ c) :
    Calls Try.prog 11 #[.slice A n c, .int .i64 size] w fun e w' => ∃ A' n' c', e = .returned (.tuple #[.slice A' n' c', .int .i64 (takesE zs size)]) ∧ OwnR w' w.heap.size (.slice A' n' c') (takesR zs size) ∧ Below w.heap.size w w' := by
  have hl := h.1
  by_cases hs : mayS size = true
  · have hb : 1 ≤ size ∧ size ≤ 8 := by simpa [mayS] using hs
    by_cases h1 : (n : Int) < 32 * size
    · refine (rtakes_short A n c size w hs h1).mono ?_
      rintro e w' ⟨rfl, rfl⟩
      refine ⟨none, 0, 0, ?_, ?_, Below.refl _ _⟩
      · unfold takesE
        rw [if_neg (by simp [hs]), hl, if_pos h1]
      · unfold takesR
        rw [if_neg (fun h => by have := h.2.1; omega)]
        exact OwnR.nil _ _
    · by_cases h2 : 32 * size < (n : Int)
      · refine (rtakes_long A n c size w hs h2).mono ?_
        rintro e w' ⟨rfl, rfl⟩
        refine ⟨none, 0, 0, ?_, ?_, Below.refl _ _⟩
        · unfold takesE
          rw [if_neg (by simp [hs]), hl, if_neg h1, if_pos h2]
        · unfold takesR
          rw [if_neg (fun h => by have := h.2.1; omega)]
          exact OwnR.nil _ _
      · obtain ⟨q, rfl⟩ : ∃ q : Nat, (q : Int) = size := ⟨size.toNat, by omega⟩
        have hn : n = 32 * q := by omega
        subst hn
        obtain ⟨b, off, rfl, hbB, _⟩ := h.2.2 (by omega)
        refine (rtakes_at B b off c zs q w h hbB hB hc (by omega) (by omega)).mono ?_
        rintro e w' ⟨A', n', c', rfl, ho, hw⟩
        refine ⟨A', n', c', ?_, ?_, hw⟩
        · have HE : takesE zs (q : Int) = if allOk zs q = true then 0 else 4 := by
            unfold takesE
            rw [if_neg (by simp [hs]), hl, if_neg h1, if_neg h2]
            rfl
          rw [HE]
        · unfold takesR
          rw [hl, Int.toNat_natCast]
          by_cases ha : allOk zs q = true
          · rw [if_pos ha] at ho
            rw [if_pos ⟨hs, by omega, ha⟩]
            exact ho
          · rw [if_neg ha] at ho
            rw [if_neg (fun h => ha h.2.2)]
            exact ho
  · have hs' : mayS size = false := by simpa using hs
    refine (rtakes_bad A n c size w hs').mono ?_
    rintro e w' ⟨rfl, rfl⟩
    refine ⟨none, 0, 0, ?_, ?_, Below.refl _ _⟩
    · unfold takesE
      rw [if_pos hs']
    · unfold takesR
      rw [if_neg (fun h => hs h.1)]
      exact OwnR.nil _ _

/-- packed: the error, the bytes, of any size -/
def packE (n : Nat) (size : Int) : Int := if mayS size = false then 1 else if size < (n : Int) then 5 else 0
def packB (rs : List R) (size : Int) : List Int := if mayS size = true ∧ (rs.length : Int) ≤ size then packs (pad rs size.toNat) else []
theorem packB_length {rs : List R} {size : Int} (h : mayS size = true) (h2 : (rs.length : Int) ≤ size) : ((packB rs size).length : Int) = 32 * size := by
  have hb : 1 ≤ size ∧ size ≤ 8 := by simpa [mayS] using h
  rw [packB, if_pos ⟨h, h2⟩, packs_length, pad_length (by omega)]
  omega
theorem packB_wf (rs : List R) (size : Int) : ∀ z ∈ packB rs size, (Lit.int .u8 z).wf = true := by
  unfold packB
  split
  · exact packs_wf _
  · exact fun z hz => absurd hz (by simp)
theorem rpacks_any (B : Nat) (A : Option Addr) (n c : Nat) (rs : List R) (size : Int) (w : World) (h : Recs w B A n rs) (hB : B ≤ w.heap.size) :
    Calls Try.prog 9 #[.slice A n c, .int .i64 size] w fun e w' => ∃ A' n' c', e = .returned (.tuple #[.slice A' n' c', .int .i64 (packE n size)]) ∧ Hid ((packB rs size).length = n') ∧ Mem.Own w' w.heap.size 5 .u8 (.slice A' n' c') (packB rs size) ∧ Below w.heap.size w w' := by
  have hl := h.1
  by_cases hs : mayS size = true
  · have hb : 1 ≤ size ∧ size ≤ 8 := by simpa [mayS] using hs
    by_cases h1 : size < (n : Int)
    · refine (rpacks_long A n c size w hs h1).mono ?_
      rintro e w' ⟨rfl, rfl⟩
      have HE : packE n size = 5 := by rw [packE, if_neg (by simp [hs]), if_pos h1]
      have HB : packB rs size = [] := by rw [packB, if_neg (by omega)]
      rw [HE, HB]
      exact ⟨none, 0, 0, rfl, Lib.hid rfl, Own.nil _ _ _ _, Below.refl _ _⟩
    · obtain ⟨q, rfl⟩ : ∃ q : Nat, (q : Int) = size := ⟨size.toNat, by omega⟩
      refine (rpacks_ok B A n c rs q w h hB (by omega) (by omega) (by omega)).mono ?_
      rintro e w' ⟨A', c', rfl, ho, hw⟩
      have HE : packE n (q : Int) = 0 := by rw [packE, if_neg (by simp [hs]), if_neg h1]
      have HB : packB rs (q : Int) = packs (pad rs q) := by rw [packB, if_pos ⟨hs, by omega⟩]; rfl
      rw [HE, HB]
      exact ⟨A', _, c', rfl, Lib.hid (by rw [packs_length, pad_length (by omega)]), ho, hw⟩
  · have hs' : mayS size = false := by simpa using hs
    refine (rpacks_bad A n c size w hs').mono ?_
    rintro e w' ⟨rfl, rfl⟩
    have HE : packE n size = 1 := by rw [packE, if_pos hs']
    have HB : packB rs size = [] := by rw [packB, if_neg (fun h => hs h.1)]
    rw [HE, HB]
    exact ⟨none, 0, 0, rfl, Lib.hid rfl, Own.nil _ _ _ _, Below.refl _ _⟩
theorem takesR_wf (zs : List Int) (size : Int) : ∀ r ∈ takesR zs size, r.wf := by
  unfold takesR
  split
  · exact recsOf_wf _ _
  · exact fun r hr => absurd hr (by simp)
theorem takesR_length (zs : List Int) (size : Int) : (takesR zs size).length ≤ 8 := by
  unfold takesR
  split
  · rename_i h
    have hb : 1 ≤ size ∧ size ≤ 8 := by simpa [mayS] using h.1
    rw [recsOf_length]
    omega
  · simp
/-- how long a sealed block is -/
def sizeV (size : Int) : Int := 32 * max 0 (min size 8) + 16
end Go.Proofs.Ytjelacblnjbfgaa.Rs
namespace Go.Proofs.Ytjelacblnjbfgaa.Rs
open Go.RowKit Go.Shelf Go.Proofs.Ytjelacblnjbfgaa.Mem Go.Proofs.Ytjelacblnjbfgaa
set_option linter.unusedVariables false
attribute [local irreducible] wpList wpListIn Calls

set_option maxRecDepth 100000 in
set_option maxHeartbeats 4000000 in
theorem rsize_any (size : Int) (w : World) : Calls Try.prog 15 #[.int .i64 size] w fun e w' => e = .returned (.int .i64 (sizeV size)) ∧ w = w' := by
  go_enter Try.func15, Try.ntmps15
  go_wp2_with fail
  all_goals
    go_ret
    refine ⟨?_, rfl⟩
    refine congrArg (fun z => Ending.returned (Value.int .i64 z)) ?_
    unfold sizeV
    omega

end Go.Proofs.Ytjelacblnjbfgaa.Rs
namespace Go.Proofs.Ytjelacblnjbfgaa.Rs
open Go.RowKit Go.ChangeShapes Go.WideShapes Go.Proofs.Ytjelacblnjbfgaa.Mem Go.Proofs.Ytjelacblnjbfgaa.Rc
set_option linter.unusedVariables false

theorem cells_four {w : World} {base : Nat} {a : Addr} {cs : List Value} (h : w.cells? base a 4 = some cs) : cs.length = 4 ∧ ∀ j, j < 4 → w.cell? (a.add j) = cs[j]? := by
  obtain ⟨h1, h2, h3⟩ := World.cells?_some h
  exact ⟨h2, h3⟩
section
variable {H : Type} {enc : TypeId × Value → H} {w : World} {base : Nat} {held : Bool}
theorem open_one {n : Nat} {cs : List Value} {x : DataW H × List MemPlace} (h : DataW.trod enc Try.prog w base (fun _ => true) held n 27 cs = some x) : ∃ r : R, cs = r.cells ∧ r.wf := by
  obtain ⟨f0, f1, f2, f3, hu, ⟨o0, t0⟩, ⟨o1, t1⟩, ⟨o2, t2⟩, ⟨o3, t3⟩⟩ := rec_fields
  obtain ⟨xs, m, _, _, hl, hxl, hel⟩ := DataW.trod_struct hu h
  have cb : Try.prog.cellsOf 4 = 1 := by kernel_rfl
  have ci : Try.prog.cellsOf 2 = 1 := by kernel_rfl
  have c4 : Try.prog.cellsOf 27 = 4 := by kernel_rfl
  rw [c4] at hl
  have hx4 : xs.length = 4 := hxl
  have e0 := hel 0 f0 rfl
  have e1 := hel 1 f1 rfl
  have e2 := hel 2 f2 rfl
  have e3 := hel 3 f3 rfl
  rw [o0, t0, cb] at e0
  rw [o1, t1, ci] at e1
  rw [o2, t2, ci] at e2
  rw [o3, t3, ci] at e3
  obtain ⟨z0, q0⟩ := field_bool (by omega) Try.underlying4 e0 (by simp [hx4])
  obtain ⟨z1, q1, w1⟩ := field_int (by omega) Try.underlying2 e1 (by simp [hx4])
  obtain ⟨z2, q2, w2⟩ := field_int (by omega) Try.underlying2 e2 (by simp [hx4])
  obtain ⟨z3, q3, w3⟩ := field_int (by omega) Try.underlying2 e3 (by simp [hx4])
  refine ⟨⟨z0, z1, z2, z3⟩, ?_, w1, w2, w3⟩
  apply List.ext_getElem?
  intro i
  match i with
  | 0 => exact q0
  | 1 => exact q1
  | 2 => exact q2
  | 3 => exact q3
  | i + 4 => rw [List.getElem?_eq_none (by omega), List.getElem?_eq_none (by simp [R.cells])]
set_option maxRecDepth 100000 in
theorem open_recs {A : Option Addr} {m c : Nat} {d : DataW H} {p : List MemPlace} (h : DataW.Trod enc Try.prog w base (fun _ => true) held 22 (.slice A m c) d p) : ∃ rs, Recs w w.heap.size A m rs ∧ m ≤ c ∧ c ≤ maxLen := by
  obtain ⟨fuel, hf⟩ := h
  simp only [Value.cells] at hf
  rcases DataW.trod_slice Try.underlying22 hf with ⟨hcs, _⟩ | ⟨a, len, cap, elems, rest, n, _, hcs, _, hb, hl, hm, hlen, hel, _, _⟩
  · simp at hcs
    obtain ⟨rfl, rfl, rfl⟩ := hcs
    exact ⟨[], Recs.nil _ _ _, Nat.le_refl _, by simp [maxLen]⟩
  · simp at hcs
    obtain ⟨rfl, rfl, rfl⟩ := hcs
    have c4 : Try.prog.cellsOf 27 = 4 := by kernel_rfl
    have each : ∀ i, i < m → ∃ r : R, r.wf ∧ ∀ j, j < 4 → w.cell? ((a.add (i * 4)).add j) = r.cells[j]? := fun i hi => by
      have hi' : i < elems.length := by rw [hlen]; exact hi
      have e := hel i hi
      rw [c4, List.getElem?_eq_getElem hi', Option.bind_eq_some_iff] at e
      obtain ⟨cs, hc, ht⟩ := e
      obtain ⟨r, rfl, hw⟩ := open_one ht
      exact ⟨r, hw, (cells_four hc).2⟩
    have hch : ∃ F : Nat → R, ∀ i, i < m → (F i).wf ∧ ∀ j, j < 4 → w.cell? ((a.add (i * 4)).add j) = (F i).cells[j]? :=
      ⟨fun i => if h : i < m then Classical.choose (each i h) else R0, fun i hi => by
        have := Classical.choose_spec (each i hi)
        simp only [hi, dif_pos]
        exact this⟩
    obtain ⟨F, hF⟩ := hch
    refine ⟨(List.range m).map F, ⟨by simp, fun r hr => ?_, fun h0 => ?_⟩, hl, hm⟩
    · obtain ⟨i, hi, rfl⟩ := List.mem_map.1 hr
      exact (hF i (List.mem_range.1 hi)).1
    · have h00 := (hF 0 h0).2 0 (by omega)
      have hsome : ∃ u, w.cell? (a.add 0) = some u := ⟨_, by simpa [R.cells, Addr.add] using h00⟩
      obtain ⟨u, hu⟩ := hsome
      obtain ⟨b, off, spot⟩ := a
      have hspot : spot = none := by simpa [Addr.add] using World.cell?_spot hu
      subst hspot
      have hlt : b < w.heap.size := by simpa [Addr.add] using World.block_lt_of_cell? w _ hu
      have ea : ∀ o j : Nat, (Addr.mk b o none).add j = ⟨b, o + j, none⟩ := fun o j => by unfold Addr.add; split <;> simp_all
      refine ⟨b, off, rfl, hlt, fun q v hv => ?_⟩
      have hq := (List.getElem?_eq_some_iff.1 hv).1
      rw [flat_length] at hq
      simp only [List.length_map, List.length_range] at hq
      have hv' := hv
      rw [show q = q / 4 * 4 + q % 4 by omega, flat_at _ (q / 4) (q % 4) (by omega) (by simp; omega)] at hv'
      have hg : ((List.range m).map F).getD (q / 4) R0 = F (q / 4) := by
        rw [List.getD_eq_getElem?_getD, List.getElem?_map, List.getElem?_range (by omega)]
        rfl
      rw [hg, ← (hF (q / 4) (by omega)).2 (q % 4) (by omega), ea, ea, Nat.add_assoc, show q / 4 * 4 + q % 4 = q by omega] at hv'
      exact hv'
end
end Go.Proofs.Ytjelacblnjbfgaa.Rs
namespace Go.Proofs.Ytjelacblnjbfgaa.Help
open Go.RowKit Go.Proofs.Ytjelacblnjbfgaa.Mem
set_option linter.unusedVariables false

theorem own_any (B : Nat) (A : Option Addr) (n c : Nat) (zs : List Int) (f : Int) (w : World) (h : Ints w .u8 B A n zs) (hB : B ≤ w.heap.size) (hn : n ≤ 1099511627776) (hf : (Lit.int .u8 f).wf = true) :
    Calls Try.prog 7 #[.slice A n c, .int .u8 f] w fun e w' => ∃ g, e = .returned (.slice (some ⟨g, 0, none⟩) n (n + 3)) ∧ w.heap.size ≤ g ∧ Row w' g 5 .u8 (zs ++ [f, f, f]) ∧ Below w.heap.size w w' := by
  obtain ⟨i0, hi0, hz0, hs0, hb0⟩ := info_parts info_u8
  have HL := Lib.hid h.1
  go_enter Try.func7, Try.ntmps7
  go_wp2_with (first
    | (at_make; refine wpList_make_own _ rfl _ _ 23 rfl w.heap.size 5 i0 (.int .u8 0) 1 Try.underlying23 hi0 hz0 hs0 .i64 .i64 _ (n + 3) rfl rfl (by simp) (by rw [hb0]; omega) (by unfold maxLen; omega) (Nat.le_refl _) ?_; intro w1 hown1 hg1)
    | (at_builtin; refine wpList_append_ints_fits _ rfl _ _ 23 rfl w.heap.size 5 .u8 1 Try.underlying23 info_u8 w.heap.size (n + 3) [] rfl ⟨by simp, hown1⟩ B A n c zs rfl (h.keep fun p hp => World.cell?_of_block (hg1.block _ (by omega) (by simp))) (by simp) ?_; intro w2 hown2 hg2))
  simp only [List.length_nil, Nat.zero_add, List.nil_append] at hown2
  have hfill := hown2.fill (M := (zs ++ [f, f, f]).map (Value.int .u8)) (by rw [List.map_append, List.take_left' (by simpa using HL.out)])
  have hbel : Below w.heap.size w w2 := ((Below.refl _ _).grown hg1 (Nat.le_refl _) (by simp)).grown hg2 (by have := hg1.size; omega) (by simp)
  clear hown2 hown1 hg1 hg2
  go_loopw [7] (fun i wr => ∃ k : Nat, n ≤ k ∧ k ≤ n + 3 ∧ i = .int .i64 k ∧ Below w.heap.size w wr ∧ Fill wr w.heap.size 5 (n + 3) ((zs ++ [f, f, f]).map (Value.int .u8)) k) (fun i _ => n + 3 - (intOf i).toNat)
  case atStart => exact ⟨n, by omega, by omega, rfl, hbel, hfill⟩
  case round =>
    obtain ⟨k, hk0, hk, rfl, hbl, hfl⟩ := hrel
    by_cases hlt : k < n + 3
    · obtain ⟨u, hu⟩ := hfl.cell hlt
      have hfr := hfl.frozen k
      have HS := Lib.hid (hfl.step (u := .int .u8 f) (by
        have hz := HL.out
        rw [List.getElem?_map, List.getElem?_append_right (by omega), hz]
        have : k - n = 0 ∨ k - n = 1 ∨ k - n = 2 := by omega
        rcases this with e | e | e <;> rw [e] <;> rfl) hlt)
      have hlt' : (k : Int) < (n : Int) + 3 := by omega
      have hk1 : (0 : Int) ≤ (k : Int) := by omega
      go_wp2_with fail
      go_roundw
      case rel => exact ⟨k + 1, by omega, by omega, by go_num, hbl.setCell (by simp) _, HS.out⟩
      case measure => simp [intOf]; omega
    · have HD := Lib.hid (hfl.done (by omega) (by have := HL.out; simp; omega))
      go_wp2_with fail
      go_ret
      exact ⟨w.heap.size, rfl, Nat.le_refl _, ⟨fun z hz => by
        rcases List.mem_append.1 hz with hz | hz
        · exact h.2.1 z hz
        · have : z = f := by simpa using hz
          rw [this]; exact hf, HD.out⟩, hbl⟩

theorem kept_any (B : Nat) (A : Option Addr) (n c g : Nat) (zs : List Int) (f : Int) (w : World) (h : Ints w .u8 B A n zs) (hn : n ≤ 1099511627776) (hr : Row w g 5 .u8 (zs ++ [f, f, f])) :
    Calls Try.prog 17 #[.slice (some ⟨g, 0, none⟩) n (n + 3), .slice A n c, .int .u8 f] w fun e w' => e = .returned (.bool true) ∧ Still w w' := by
  have HL := Lib.hid h.1
  have hi := hr.ints (n := n) (by simp; have := HL.out; omega)
  rw [List.take_left' HL.out] at hi
  go_enter Try.func17, Try.ntmps17
  go_wp2_with fail
  refine (plain_any _ _ _ _ _ _ _ _ _ _ _ hi h (by omega) (by omega)).mono ?_
  rintro e w1 ⟨rfl, hst⟩
  go_wp2_with fail
  go_loop [8] (fun i => ∃ k : Nat, n ≤ k ∧ k ≤ n + 3 ∧ i = .int .i64 k) (fun i => n + 3 - (intOf i).toNat)
  case atStart => exact ⟨n, by omega, by omega, rfl⟩
  case round =>
    obtain ⟨k, hk0, hk, rfl⟩ := hrel
    by_cases hlt : k < n + 3
    · have hc : w1.cell? ⟨g, k, none⟩ = some (.int .u8 f) := by
        have hz := HL.out
        rw [hst.cell, hr.cell (by simp; omega)]
        simp only [List.getD_eq_getElem?_getD]
        rw [List.getElem?_append_right (by omega), hz]
        have : k - n = 0 ∨ k - n = 1 ∨ k - n = 2 := by omega
        rcases this with e | e | e <;> rw [e] <;> rfl
      have hlt' : (k : Int) < (n : Int) + 3 := by omega
      have hk1 : (0 : Int) ≤ (k : Int) := by omega
      go_wp2_with fail
      go_round
      case rel => exact ⟨k + 1, by omega, by omega, by go_num⟩
      case measure => simp [intOf]; omega
    · go_wp2_with fail
      go_ret
      exact ⟨rfl, hst⟩
end Go.Proofs.Ytjelacblnjbfgaa.Help
namespace Go.Proofs.Ytjelacblnjbfgaa.Held
open Go.RowKit
set_option linter.unusedVariables false

section
variable {P : Program} {ops : Array Oper} {Q Q' : Exit → Act → World → Prop} {n : Nat} {r : Option Nat} {rest : List Oper} {o : Oper} {a : Act} {w : World}
theorem opIn_wide (ho : ∀ c, o.op ≠ .defer c) (hp : ∀ ch a w, ¬ Q' (.panic ch) a w) (hl : ¬ LetsOut Q') {K : Act → World → Prop} (h : o.wp P a w K Q') : o.wpIn (wideR r) n P a w K Q := by
  refine ⟨fun _ _ => trivial, ?_⟩
  rw [Oper.semAt_plain (wideR r) _ _ ho]
  unfold Oper.wp at h
  generalize (execOp a.eval o).run P w = x at h
  cases x with
  | ok y w' =>
    cases y with
    | value v => exact h
    | skip => exact h
    | «defer» d => exact h
    | enter f args =>
      refine ⟨fun hd => absurd (show false = true from hd) (by simp), (calls_wideR (r := r) h).mono fun e w'' he => ?_⟩
      cases e
      · exact he
      · exact (hp _ _ _ he).elim
      · exact (hl he).elim
    | row row args => exact ⟨fun hd => absurd (show false = true from hd) (by simp), rows_wideR h⟩
    | _ => exact h.elim
  | halt y w' =>
    cases y <;> first | exact h.elim | exact (hp _ _ _ h).elim
/-- one operation, as without a fence -/
theorem wpListIn_one {F : Fence} (hF : F = wideR r) (ho : ∀ c, o.op ≠ .defer c) (h : wpList P ops (fun e a' w' => e = .normal ∧ wpListIn F n P ops Q rest a' w') [o] a w) : wpListIn F n P ops Q (o :: rest) a w := by
  subst hF
  unfold wpList at h
  unfold wpListIn
  split
  · rename_i hw
    simp only [hw, if_true] at h
    rcases h with h | ⟨_, a', w', hx⟩
    · refine Oper.wpIn_mono (fun a' w' h' => ?_) (opIn_wide ho (fun ch a w hx => by cases hx.1) (fun ⟨a, w, hx⟩ => by cases hx.1) h)
      exact h'.2
    · cases hx.1
  · rename_i hw
    simp only [hw] at h
    exact ⟨fun _ _ => trivial, h.2⟩
end
end Go.Proofs.Ytjelacblnjbfgaa.Held
namespace Go.Proofs.Ytjelacblnjbfgaa.Rs
open Go.RowKit Go.Shelf Go.Proofs.Ytjelacblnjbfgaa.Mem Go.Proofs.Ytjelacblnjbfgaa.Held Go.Proofs.Ytjelacblnjbfgaa.Range Go.Proofs.Ytjelacblnjbfgaa.Rc Go.Proofs.Ytjelacblnjbfgaa
set_option linter.unusedVariables false
attribute [local go_sem] Oper.semAt_some
attribute [local irreducible] wpList wpListIn Calls

theorem bmay_any (size : Int) (w : World) : Calls Try.prog 18 #[.int .i64 size] w fun e w' => e = .returned (.bool (mayS size)) ∧ w = w' := by
  by_cases h1 : 1 ≤ size
  · by_cases h8 : size ≤ 8
    · have hm : mayS size = true := by simp [mayS, h1, h8]
      have HM := Lib.hid hm
      clear hm
      go_enter Try.func18, Try.ntmps18
      go_wp2_with fail
      go_ret
      exact ⟨Mem.ret_bool HM.out.symm, rfl⟩
    · have hm : mayS size = false := by simp [mayS, h8]
      have HM := Lib.hid hm
      clear hm
      go_enter Try.func18, Try.ntmps18
      go_wp2_with fail
      go_ret
      exact ⟨Mem.ret_bool HM.out.symm, rfl⟩
  · have hm : mayS size = false := by simp [mayS, h1]
    have HM := Lib.hid hm
    clear hm
    go_enter Try.func18, Try.ntmps18
    go_wp2_with fail
    go_ret
    exact ⟨Mem.ret_bool HM.out.symm, rfl⟩
theorem bplain_any (size : Int) (w : World) (h0 : 0 ≤ size) (h8 : size ≤ 8) : Calls Try.prog 19 #[.int .i64 size] w fun e w' => e = .returned (.int .i64 (32 * size)) ∧ w = w' := by
  go_enter Try.func19, Try.ntmps19
  go_wp2_with fail
  go_ret
  exact ⟨rfl, rfl⟩
set_option maxRecDepth 100000 in
set_option maxHeartbeats 4000000 in
theorem size_any (size : Int) (w : World) : Calls Try.prog 14 #[.int .i64 size] w fun e w' => e = .returned (.int .i64 (sizeV size)) ∧ Below w.heap.size w w' := by
  go_enter Try.func14, Try.ntmps14
  go_wp2_with fail
  all_goals
    refine (bplain_any _ w (by omega) (by omega)).mono ?_
    rintro e w1 ⟨rfl, rfl⟩
    go_wp2_with fail
    go_ret
    refine ⟨?_, Below.refl _ _⟩
    refine congrArg (fun z => Ending.returned (Value.int .i64 z)) ?_
    unfold sizeV
    omega

theorem filled_any (A : Option Addr) (n c : Nat) (size : Int) (w : World) :
    Calls Try.prog 20 #[.slice A n c, .int .i64 size] w fun e w' => ∃ bl bs : Nat, e = .returned (.func (.func 30) #[] #[.pointer (some ⟨bl, 0, none⟩), .pointer (some ⟨bs, 0, none⟩)]) ∧ Blk w' bl 22 #[.slice A n c] ∧ Blk w' bs 3 #[.int .i64 size] ∧ w.heap.size ≤ bl ∧ w.heap.size ≤ bs ∧ Below w.heap.size w w' := by
  go_enter Try.func20, Try.ntmps20
  go_wp2_with (first
    | (refine Held.wpList_box_cell (w := w) rfl 22 _ rfl (.slice A n c) rfl rfl ?_; intro u1 q1 g1 z1)
    | (refine Held.wpList_box_cell (w := u1) rfl 3 _ rfl (.int .i64 size) rfl rfl ?_; intro u2 q2 g2 z2))
  go_ret
  exact ⟨_, _, rfl, Held.keep_cells q1 g2 (by simp), q2, Nat.le_refl _, g1.size, ((Below.refl _ w).grown g1 (Nat.le_refl _) (by simp)).grown g2 g1.size (by simp)⟩

/-- a record is handed out -/
def EncR (x : R) (B0 : Nat) (W : World) (args : Array Value) : Prop := args = #[.agg #[.bool x.d, .int .i64 x.k, .int .i64 x.v, .int .i64 x.s]]
theorem Recs.only {S : Nat → Prop} {w w' : World} {B n : Nat} {A : Option Addr} {rs : List R} (h : Recs w B A n rs) (ho : Only S w w') (hS : ∀ b, b < B → ¬ S b) : Recs w' B A n rs :=
  ⟨h.1, h.2.1, fun hn => by
    obtain ⟨b, off, e, hb, hc⟩ := h.2.2 hn
    exact ⟨b, off, e, hb, fun j v hv => ho.cell (p := ⟨b, off + j, none⟩) (hS b hb) (hc j v hv)⟩⟩
theorem take_snoc (xs : List R) {k : Nat} (hk : k < xs.length) : xs.take k ++ [xs.getD k R0] = xs.take (k + 1) := by
  rw [List.take_succ_eq_append_getElem hk, List.getD_eq_getElem?_getD, List.getElem?_eq_getElem hk]
  rfl
end Go.Proofs.Ytjelacblnjbfgaa.Rs
namespace Go.Proofs.Ytjelacblnjbfgaa.Mem
open Go.RowKit Go.Shelf
set_option linter.unusedVariables false

/-- numbers at a block that is none of S, as numbers below the heap's end -/
theorem IntsN.ints {S : Nat → Prop} {w : World} {k : IntKind} {A : Option Addr} {n : Nat} {zs : List Int} (h : IntsN w k S A n zs) : Ints w k w.heap.size A n zs :=
  ⟨h.1, h.2.1, fun hn => by
    obtain ⟨b, off, e, _, hc⟩ := h.2.2 hn
    exact ⟨b, off, e, by have := World.block_lt_of_cell? w _ (hc 0 hn); simpa using this, hc⟩⟩

end Go.Proofs.Ytjelacblnjbfgaa.Mem
namespace Go.Proofs.Ytjelacblnjbfgaa.Rs
open Go.RowKit Go.Shelf Go.Proofs.Ytjelacblnjbfgaa.Mem Go.Proofs.Ytjelacblnjbfgaa.Held Go.Proofs.Ytjelacblnjbfgaa.Range Go.Proofs.Ytjelacblnjbfgaa.Rc Go.Proofs.Ytjelacblnjbfgaa
set_option linter.unusedVariables false
attribute [local go_sem] Oper.semAt_some
attribute [local irreducible] wpList wpListIn Calls

theorem taken_any (A : Option Addr) (n c : Nat) (w : World) :
    Calls Try.prog 25 #[.slice A n c] w fun e w' => ∃ bx : Nat, e = .returned (.func (.func 38) #[] #[.pointer (some ⟨bx, 0, none⟩)]) ∧ Blk w' bx 23 #[.slice A n c] ∧ w.heap.size ≤ bx ∧ Below w.heap.size w w' := by
  go_enter Try.func25, Try.ntmps25
  go_wp2_with (refine Held.wpList_box_cell (w := w) rfl 23 _ rfl (.slice A n c) rfl rfl ?_; intro u1 q1 g1 z1)
  go_ret
  exact ⟨_, rfl, q1, Nat.le_refl _, (Below.refl _ w).grown g1 (Nat.le_refl _) (by simp)⟩

/-- what is handed out in round k -/
def atT (zs : List Int) (size k : Nat) : Option (Array Value × Int) := if k < size then some (takenC (word zs k), takenE (word zs k)) else none
def encT (x : Array Value × Int) : Array Value := #[.agg x.1, .int .i64 x.2]
set_option maxRecDepth 100000 in
set_option maxHeartbeats 4000000 in
theorem taken_stop (N bx : Nat) (S : Nat → Prop) (B b off n c : Nat) (zs : List Int) (size : Nat) (w : World) (hbx : w.cell? ⟨bx, 0, none⟩ = some (.slice (some ⟨b, off, none⟩) n c)) (hSx : ¬ S bx) (h : Ints w .u8 B (some ⟨b, off, none⟩) n zs) (hSB : ∀ b, b < B → ¬ S b) (hb : b < B) (hB : B ≤ w.heap.size) (hn : 32 * size = n) (hc : n ≤ c) (h8 : size ≤ 8) :
    SeqStop Fence.wide N Try.prog 38 #[.pointer (some ⟨bx, 0, none⟩)] encT (Only S) (atT zs size) w := by
  intro l J Jx Nb W hW hJ hJx hN hY h0
  have kbx := (hW.cell (p := ⟨bx, 0, none⟩) (World.block_lt_of_cell? w _ hbx)).trans hbx
  have kv : IntsN W .u8 S (some ⟨b, off, none⟩) n zs := IntsN.of (h.below (hW.mono hB)) hSB
  have hq : (n : Int) / 32 = (size : Int) := by omega
  have hqt : Int.tdiv (n : Int) 32 = (size : Int) := by rw [Int.tdiv_eq_ediv_of_nonneg (by omega)]; exact hq
  have HN := Lib.hid hn
  clear hn hbx h hW
  refine callsIn_of_wp Try.func38 rfl trivial ?_ rfl
  simp only [Try.ntmps38, List.size_toArray, List.length_cons, List.length_nil, Nat.reduceAdd, Nat.reduceSub, Array.replicate_succ, Array.replicate_zero, List.push_toArray, List.append_toArray, List.nil_append, List.cons_append]
  gi_wp2_with fail
  gi_loopw [7] (fun i wr => ∃ k : Nat, k ≤ size ∧ i = .int .i64 k ∧ J k wr ∧ Only S W wr) (fun i _ => size - (intOf i).toNat)
  case atStart => exact ⟨0, by omega, rfl, h0, Only.refl _ _⟩
  case round =>
    obtain ⟨k, hk, rfl, Jk, ok⟩ := hrel
    by_cases hlt : k < size
    · have kb := ok.cell (p := ⟨bx, 0, none⟩) hSx kbx
      have iw := ints_mid ((kv.only ok).ints) (o := 32 * k) (m := 32) (by have := HN.out; omega) (by omega)
      have hlt' : (k : Int) < (size : Int) := by omega
      have hk0 : (0 : Int) ≤ (k : Int) := by omega
      have hkn : 32 * k + 32 ≤ n := by have := HN.out; omega
      have hsl : ∀ W, (Instr.sliceAt 23 (.slice (some ⟨b, off, none⟩) n c) (some (.int .i64 (32 * (k : Int)))) (some (.int .i64 (32 * ((k : Int) + 1)))) none).run Try.prog W = .ok (.slice (some ⟨b, off + 32 * k, none⟩) 32 (c - 32 * k)) W := fun W => by
        have := run_midO (P := Try.prog) Try.underlying23 Rc.size_u8 b off n (cap := c) (l := 32 * k) (h := 32 * k + 32) (by omega) (by omega) (by omega) W
        rwa [show 32 * k + 32 - 32 * k = 32 by omega, show ((32 * k + 32 : Nat) : Int) = 32 * ((k : Int) + 1) by omega, show ((32 * k : Nat) : Int) = 32 * (k : Int) by omega] at this
      have hc32 : 32 ≤ c - 32 * k := by omega
      have hY := hY k (takenC (word zs k), takenE (word zs k))
      rw [atT, if_pos hlt] at hY
      have HT := Lib.hid (show takenC ((zs.drop (32 * k)).take 32) = takenC (word zs k) from rfl)
      have HTE := Lib.hid (show takenE ((zs.drop (32 * k)).take 32) = takenE (word zs k) from rfl)
      generalize takenC (word zs k) = C at hY HT
      generalize takenE (word zs k) = E at hY HTE
      clear kbx
      gi_wp2_with (refine Held.wpListIn_one (r := none) rfl (by intro c e; cases e) ?_; refine wpList_run (w := wr) rfl (v := .slice (some ⟨b, off + 32 * k, none⟩) 32 (c - 32 * k)) (Held.y_slice (S := fun _ => True) rfl hsl _ trivial) ?_; refine wpList_nil ⟨rfl, ?_⟩)
      refine ⟨trivial, fun h => (by cases h), ?_⟩
      refine (callsIn_wide.2 (take_any wr.heap.size (some ⟨b, off + 32 * k, none⟩) 32 (c - 32 * k) _ wr iw (Nat.le_refl _) hc32 (by omega))).mono ?_
      rintro e w3 ⟨rfl, b3⟩
      rw [HT.out, HTE.out]
      obtain ⟨fn, tmps, assign, body, hy, hR⟩ := hY w3 (hJ k wr w3 none Jk (grown_of_below b3 none) (fun r e => by cases e)) trivial
      have hy : (Instr.yield l #[.agg C, .int .i64 E]).run Try.prog w3 = .ok (.round l fn tmps assign body) w3 := hy
      clear iw hsl
      gi_wp2_with fail
      refine ⟨fun h => (by cases h), ?_⟩
      refine hR.mono ?_
      rintro e W4 (⟨rfl, J4, o4⟩ | ⟨rfl, Jx4⟩)
      · have o5 := (ok.trans (Only.of_below b3)).trans o4
        clear hR hy o4 b3 ok Jk kb HT HTE
        gi_wp2_with fail
        go_roundw
        case rel => exact ⟨k + 1, by omega, by go_num, J4, o5⟩
        case measure => simp [intOf]; omega
      · gi_wp2_with fail
        exact bodyPost_ret (results_none rfl _ _ _) rfl ⟨⟨_, rfl⟩, .inr ⟨_, Jx4⟩⟩
    · have hks : k = size := by omega
      subst hks
      gi_wp2_with fail
      go_end0
      exact ⟨⟨_, rfl⟩, .inl ⟨k, by rw [atT, if_neg (Nat.lt_irrefl _)], Jk⟩⟩
end Go.Proofs.Ytjelacblnjbfgaa.Rs
