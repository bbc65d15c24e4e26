/-
  Package merge's leads and settle by their contracts: which of two records stands ahead by either order; two neighbours of a list of the call's own.
  Lists of structs in a block that is filled step by step; append within the room: no program here.
  Appending a list of structs of any length, none among them, onto a list of the call's own; the library's slices.Clone and slices.Grow of records, by their contracts.
  Package merge's Sort by its contract: a list of the call's own, as the document sorts.
  The library's slices.Grow of no records and slices.Concat of two lists of records, by their contracts.
  The document's own ahead and Sort (dominoref14), by their contracts.
-/
import Derived.Test.YtlinmcgmkpkpaaaDoorB7
import Derived.Test.YtlinmcgmkpkpaaaDoorB5
import Derived.Test.YtlinmcgmkpkpaaaDoorB4
import Derived.Test.YtlinmcgmkpkpaaaDoorB6
import Derived.OwnWalk
import Derived.Lib.LazyBuf
import Derived.Test.YtlinmcgmkpkpaaaDoorB8
import Derived.Test.YtlinmcgmkpkpaaaDoorB1
set_option linter.unusedVariables false
namespace Go.Proofs.YtlinmcgmkpkpaaaDoor.Mg
open Go.RowKit Go.Shelf Go.Proofs.YtlinmcgmkpkpaaaDoor Mem Held Ct Rc Rs Sl
attribute [local irreducible] wpList wpListIn Calls
theorem rec_one (x : R) : ∀ u ∈ x.cells, u.oneCell' = true := fun u hu => by
  simp only [R.cells, List.mem_cons, List.not_mem_nil, or_false] at hu
  rcases hu with rfl | rfl | rfl | rfl <;> rfl
def kRec : St R := ⟨4, R.cells, R.wf, R0, fun _ => rfl, rec_one, by omega⟩
theorem info_kRec : (Tryd.prog.info? 51).map (fun i => (i.zero, i.size, i.bytes)) = some (some (.agg (kRec.cells kRec.d).toArray), kRec.s, 32) := by kernel_rfl
set_option maxRecDepth 100000 in
set_option maxHeartbeats 4000000 in
theorem leads_any (seq : Bool) (a b : R) (ha : a.wf) (hb : b.wf) (w : World) :
    Calls Tryd.prog 91 #[.agg #[.bool a.d, .int .i64 a.k, .int .i64 a.v, .int .i64 a.s], .agg #[.bool b.d, .int .i64 b.k, .int .i64 b.v, .int .i64 b.s], .bool seq] w fun e w' => e = .returned (.int .u64 (oneI (lead seq a b))) ∧ Below w.heap.size w w' := by
  go_enter Tryd.func91, Tryd.ntmps91
  cases seq with
  | true =>
    go_wp2_with (first
      | (refine wpList_box_blk (w := w) rfl 51 _ rfl _ rfl ?_; intro w1 q1 g1 z1)
      | (refine wpList_box_blk (w := w1) rfl 51 _ rfl _ rfl ?_; intro w2 q2 g2 z2; have q1 := q1.grown g2 (by simp))
      | (refine wpList_load_blk (w := w2) rfl 51 _ rfl w.heap.size 4 rfl 51 _ q1 _ Tryd.underlying51 rfl (by kernel_rfl) rfl ?_)
      | (refine wpList_load_blk (w := w2) rfl 51 _ rfl w1.heap.size 4 rfl 51 _ q2 _ Tryd.underlying51 rfl (by kernel_rfl) rfl ?_))
    have b2 : Below w.heap.size w w2 := ((Below.refl _ w).grown g1 (Nat.le_refl _) (by simp)).grown g2 g1.size (by simp)
    refine (before_any a.d a.k a.v a.s b.d b.k b.v b.s ha.1 ha.2.2 hb.1 hb.2.2 _).mono ?_
    rintro e w3 ⟨rfl, b3⟩
    go_wp2_with fail
    go_ret
    exact ⟨rfl, b2.trans (b3.mono b2.size)⟩
  | false =>
    go_wp2_with (first
      | (refine wpList_box_blk (w := w) rfl 51 _ rfl _ rfl ?_; intro w1 q1 g1 z1)
      | (refine wpList_box_blk (w := w1) rfl 51 _ rfl _ rfl ?_; intro w2 q2 g2 z2; have q1 := q1.grown g2 (by simp))
      | (refine wpList_load_blk (w := w2) rfl 51 _ rfl w.heap.size 4 rfl 51 _ q1 _ Tryd.underlying51 rfl (by kernel_rfl) rfl ?_)
      | (refine wpList_load_blk (w := w2) rfl 51 _ rfl w1.heap.size 4 rfl 51 _ q2 _ Tryd.underlying51 rfl (by kernel_rfl) rfl ?_))
    have b2 : Below w.heap.size w w2 := ((Below.refl _ w).grown g1 (Nat.le_refl _) (by simp)).grown g2 g1.size (by simp)
    refine (ahead_any a.d a.k a.v a.s b.d b.k b.v b.s ha.1 ha.2.2 hb.1 hb.2.2 _).mono ?_
    rintro e w3 ⟨rfl, b3⟩
    go_wp2_with fail
    go_ret
    exact ⟨rfl, b2.trans (b3.mono b2.size)⟩
theorem getD_mem {rs : List R} {i : Nat} (hi : i < rs.length) : rs.getD i R0 ∈ rs := by
  rw [List.getD_eq_getElem?_getD, List.getElem?_eq_getElem hi]
  exact List.getElem_mem hi
set_option maxRecDepth 100000 in
set_option maxHeartbeats 8000000 in
theorem settle_any (seq : Bool) (base g n c p : Nat) (rs : List R) (w : World) (h : OwnL kRec 51 w base (.slice (some ⟨g, 0, none⟩) n c) rs) (hwf : ∀ r ∈ rs, r.wf) (hp : p + 1 < n) (hn : n ≤ 1073741824) :
    Calls Tryd.prog 72 #[.slice (some ⟨g, 0, none⟩) n c, .int .i64 (p : Int), .bool seq] w fun e w' => (∃ v, e = .returned v) ∧ OwnL kRec 51 w' base (.slice (some ⟨g, 0, none⟩) n c) (settleR seq rs p) ∧ w.grownBy w' (some g) := by
  have hl := OwnL.lst h hwf
  have hp0 : p < n := by omega
  obtain ⟨b, off, e1, hg, hx⟩ := hl.at_ hp0
  injection e1 with e1
  injection e1 with e1 e2
  subst e1
  subst e2
  obtain ⟨b, off, e1, _, hy⟩ := hl.at_ hp
  injection e1 with e1
  injection e1 with e1 e2
  subst e1
  subst e2
  have hx : w.rangeAt g (0 + p * 4) (rs.getD p R0).cells := hx
  have hy : w.rangeAt g (0 + (p + 1) * 4) (rs.getD (p + 1) R0).cells := hy
  have hL := hl.1
  have wa := hwf _ (getD_mem (rs := rs) (i := p) (by omega))
  have wb := hwf _ (getD_mem (rs := rs) (i := p + 1) (by omega))
  have HSET := Lib.hid (show settleR seq rs p = (rs.set p (if lead seq (rs.getD (p + 1) R0) (rs.getD p R0) then rs.getD (p + 1) R0 else rs.getD p R0)).set (p + 1) (if lead seq (rs.getD (p + 1) R0) (rs.getD p R0) then rs.getD p R0 else rs.getD (p + 1) R0) from rfl)
  have HP1 := Lib.hid (show IntKind.i64.wrap ((p : Int) + 1) = ((p + 1 : Nat) : Int) by rw [IntKind.wrap_i64]; omega)
  have HLP := Lib.hid (show p < rs.length by omega)
  have HLQ := Lib.hid (show p + 1 < rs.length by omega)
  generalize rs.getD p R0 = ra at hx HSET wa
  generalize rs.getD (p + 1) R0 = rb at hy HSET wb
  clear hl hL
  go_enter Tryd.func72, Tryd.ntmps72
  go_wp2_with fail
  refine wp_mono (Q := fun e a' w' => e = .normal ∧ ∃ p6 p7, a' = { tmps := #[.slice (some ⟨g, 0, none⟩) n c, .int .i64 (p : Int), .bool seq, undef, undef, undef, .pointer (some ⟨p6, 0, none⟩), .pointer (some ⟨p7, 0, none⟩), undef, .slice (some ⟨g, 0, none⟩) n c, .int .i64 (p : Int), .pointer (some ⟨g, 0 + p * 4, none⟩), .agg #[.bool ra.d, .int .i64 ra.k, .int .i64 ra.v, .int .i64 ra.s], .slice (some ⟨g, 0, none⟩) n c, .int .i64 (p : Int), .int .i64 ((p + 1 : Nat) : Int), .pointer (some ⟨g, 0 + (p + 1) * 4, none⟩), .agg #[.bool rb.d, .int .i64 rb.k, .int .i64 rb.v, .int .i64 rb.s], undef, undef, undef, undef, undef, undef, undef, undef, undef, undef, undef, undef, undef, undef, undef, undef, undef, undef, undef], defers := [] } ∧ Blk w' p6 51 #[.bool ra.d, .int .i64 ra.k, .int .i64 ra.v, .int .i64 ra.s] ∧ Blk w' p7 51 #[.bool rb.d, .int .i64 rb.k, .int .i64 rb.v, .int .i64 rb.s] ∧ p6 ≠ p7 ∧ w.heap.size ≤ p6 ∧ w.heap.size ≤ p7 ∧ Below w.heap.size w w') ?_ ?_
  · refine wp_region_held (S := fun W => Below w.heap.size w W) (by kernel_rfl) ?_
    change wpAnyH _ _ _ _ _ _ _ _ w.drew
    have c0_0 := (Below.refl w.heap.size w).drew
    refine Held.take (v := .slice (some ⟨g, 0, none⟩) n c) 0 (some 9) rfl rfl (by kernel_rfl) (by kernel_rfl) (by kernel_rfl) (fun _ _ _ h => by cases h.1) rfl (Held.y_move rfl rfl) c0_0 ?_
    simp only [Act.put, Z1, Z2, Z3]
    refine Held.take (v := .int .i64 (p : Int)) 1 (some 10) rfl rfl (by kernel_rfl) (by kernel_rfl) (by kernel_rfl) (fun _ _ _ h => by cases h.1) rfl (Held.y_move rfl rfl) c0_0 ?_
    simp only [Act.put, Z1, Z2, Z3]
    refine Held.take (v := .pointer (some ⟨g, 0 + p * 4, none⟩)) 2 (some 11) rfl rfl (by kernel_rfl) (by kernel_rfl) (by kernel_rfl) (fun _ _ _ h => by cases h.1) rfl (Held.y_addr rfl rfl rfl (run_addr_of 48 51 g 0 n c p 4 .i64 Tryd.underlying48 (by kernel_rfl) hp0)) c0_0 ?_
    simp only [Act.put, Z1, Z2, Z3]
    refine Held.take (v := .agg #[.bool ra.d, .int .i64 ra.k, .int .i64 ra.v, .int .i64 ra.s]) 3 (some 12) rfl rfl (by kernel_rfl) (by kernel_rfl) (by kernel_rfl) (fun _ _ _ h => by cases h.1) rfl (y_load_range (n := 4) (cs := ra.cells) rfl rfl Tryd.underlying51 rfl (by kernel_rfl) rfl (fun W hW => range_below hx hW hg)) c0_0 ?_
    simp only [Act.put, Z1, Z2, Z3]
    refine Held.take (v := .slice (some ⟨g, 0, none⟩) n c) 4 (some 13) rfl rfl (by kernel_rfl) (by kernel_rfl) (by kernel_rfl) (fun _ _ _ h => by cases h.1) rfl (Held.y_move rfl rfl) c0_0 ?_
    simp only [Act.put, Z1, Z2, Z3]
    refine Held.take (v := .int .i64 (p : Int)) 5 (some 14) rfl rfl (by kernel_rfl) (by kernel_rfl) (by kernel_rfl) (fun _ _ _ h => by cases h.1) rfl (Held.y_move rfl rfl) c0_0 ?_
    simp only [Act.put, Z1, Z2, Z3]
    refine Held.take (v := .int .i64 ((p + 1 : Nat) : Int)) 6 (some 15) rfl rfl (by kernel_rfl) (by kernel_rfl) (by kernel_rfl) (fun _ _ _ h => by cases h.1) rfl (Held.y_int rfl rfl rfl (Held.run_add 3 .i64 HP1.out)) c0_0 ?_
    simp only [Act.put, Z1, Z2, Z3]
    refine Held.take (v := .pointer (some ⟨g, 0 + (p + 1) * 4, none⟩)) 7 (some 16) rfl rfl (by kernel_rfl) (by kernel_rfl) (by kernel_rfl) (fun _ _ _ h => by cases h.1) rfl (Held.y_addr rfl rfl rfl (run_addr_of 48 51 g 0 n c (p + 1) 4 .i64 Tryd.underlying48 (by kernel_rfl) hp)) c0_0 ?_
    simp only [Act.put, Z1, Z2, Z3]
    refine Held.take (v := .agg #[.bool rb.d, .int .i64 rb.k, .int .i64 rb.v, .int .i64 rb.s]) 8 (some 17) rfl rfl (by kernel_rfl) (by kernel_rfl) (by kernel_rfl) (fun _ _ _ h => by cases h.1) rfl (y_load_range (n := 4) (cs := rb.cells) rfl rfl Tryd.underlying51 rfl (by kernel_rfl) rfl (fun W hW => range_below hy hW hg)) c0_0 ?_
    simp only [Act.put, Z1, Z2, Z3]
    refine Held.two 9 10 (by kernel_rfl) ?_ ?_
    · refine op_alloc_blk 9 (some 6) 51 _ rfl rfl rfl rfl zero_rec ?_
      intro p6 w1 r6 b1 h6
      have q6 := Nat.le_trans c0_0.size h6.out
      have c0_1 := c0_0.trans (b1.mono c0_0.size)
      refine ⟨c0_1, ?_⟩
      simp only [Act.put, Z1, Z2, Z3]
      refine Held.one 10 (by kernel_rfl) ?_
      refine op_alloc_blk 10 (some 7) 51 _ rfl rfl rfl rfl zero_rec ?_
      intro p7 w2 r7 b2 h7
      have q7 := Nat.le_trans c0_1.size h7.out
      have c0_2 := c0_1.trans (b2.mono c0_1.size)
      have n67 : p6 ≠ p7 := fun x => by have := r6.lt; have := h7.out; omega
      have r6 := r6.after b2
      refine ⟨c0_2, ?_⟩
      simp only [Act.put, Z1, Z2, Z3]
      refine Held.one 11 (by kernel_rfl) ?_
      refine op_store_blk 11 none 51 p6 4 51 _ #[.bool ra.d, .int .i64 ra.k, .int .i64 ra.v, .int .i64 ra.s] rfl rfl rfl rfl rfl rfl r6 info_rec rfl rfl (by kernel_rfl) ?_
      intro w3 r6 g3
      have c0_3 := c0_2.grown g3 c0_2.size (fun r e => by cases e; exact q6)
      have r7 := r7.grown g3 (by intro e; injection e with e; exact n67 e.symm)
      refine ⟨c0_3, ?_⟩
      simp only [Act.put]
      refine Held.one 12 (by kernel_rfl) ?_
      refine op_store_blk 12 none 51 p7 4 51 _ #[.bool rb.d, .int .i64 rb.k, .int .i64 rb.v, .int .i64 rb.s] rfl rfl rfl rfl rfl rfl r7 info_rec rfl rfl (by kernel_rfl) ?_
      intro w4 r7 g4
      have c0_4 := c0_3.grown g4 c0_3.size (fun r e => by cases e; exact q7)
      have r6 := r6.grown g4 (by intro e; injection e with e; exact n67 e)
      refine ⟨c0_4, ?_⟩
      simp only [Act.put]
      refine wpAnyH_done (by kernel_rfl) ?_ _
      exact ⟨rfl, p6, p7, rfl, r6, r7, n67, q6, q7, c0_4⟩
    · refine op_alloc_blk 10 (some 7) 51 _ rfl rfl rfl rfl zero_rec ?_
      intro p7 w1 r7 b1 h7
      have q7 := Nat.le_trans c0_0.size h7.out
      have c0_1 := c0_0.trans (b1.mono c0_0.size)
      refine ⟨c0_1, ?_⟩
      simp only [Act.put, Z1, Z2, Z3]
      refine Held.one 9 (by kernel_rfl) ?_
      refine op_alloc_blk 9 (some 6) 51 _ rfl rfl rfl rfl zero_rec ?_
      intro p6 w2 r6 b2 h6
      have q6 := Nat.le_trans c0_1.size h6.out
      have c0_2 := c0_1.trans (b2.mono c0_1.size)
      have n67 : p6 ≠ p7 := fun x => by have := r7.lt; have := h6.out; omega
      have r7 := r7.after b2
      refine ⟨c0_2, ?_⟩
      simp only [Act.put, Z1, Z2, Z3]
      refine Held.one 11 (by kernel_rfl) ?_
      refine op_store_blk 11 none 51 p6 4 51 _ #[.bool ra.d, .int .i64 ra.k, .int .i64 ra.v, .int .i64 ra.s] rfl rfl rfl rfl rfl rfl r6 info_rec rfl rfl (by kernel_rfl) ?_
      intro w3 r6 g3
      have c0_3 := c0_2.grown g3 c0_2.size (fun r e => by cases e; exact q6)
      have r7 := r7.grown g3 (by intro e; injection e with e; exact n67 e.symm)
      refine ⟨c0_3, ?_⟩
      simp only [Act.put]
      refine Held.one 12 (by kernel_rfl) ?_
      refine op_store_blk 12 none 51 p7 4 51 _ #[.bool rb.d, .int .i64 rb.k, .int .i64 rb.v, .int .i64 rb.s] rfl rfl rfl rfl rfl rfl r7 info_rec rfl rfl (by kernel_rfl) ?_
      intro w4 r7 g4
      have c0_4 := c0_3.grown g4 c0_3.size (fun r e => by cases e; exact q7)
      have r6 := r6.grown g4 (by intro e; injection e with e; exact n67 e)
      refine ⟨c0_4, ?_⟩
      simp only [Act.put]
      refine wpAnyH_done (by kernel_rfl) ?_ _
      exact ⟨rfl, p6, p7, rfl, r6, r7, n67, q6, q7, c0_4⟩
  rintro e a' wz ⟨rfl, p6, p7, rfl, r6, r7, n67, q6, q7, bz⟩
  have hz := OwnL.below h bz
  have gz : w.grownBy wz (some g) := grown_of_below bz _
  clear h hx hy
  go_wp2_with (first
    | (refine wpList_load_blk (w := wz) rfl 51 _ rfl p7 4 rfl 51 _ r7 _ Tryd.underlying51 rfl (by kernel_rfl) rfl ?_)
    | (refine wpList_load_blk (w := wz) rfl 51 _ rfl p6 4 rfl 51 _ r6 _ Tryd.underlying51 rfl (by kernel_rfl) rfl ?_))
  refine (leads_any seq rb ra wb wa _).mono ?_
  rintro e w1 ⟨rfl, b1⟩
  have r6 := r6.after b1
  have r7 := r7.after b1
  have hz := OwnL.below hz b1
  have gz : w.grownBy w1 (some g) := Lib.grownBy_trans gz (grown_of_below b1 _)
  have g6 : p6 ≠ g := by omega
  have g7 : p7 ≠ g := by omega
  clear b1 bz
  cases hs : lead seq rb ra with
  | true =>
    rw [hs] at HSET
    have HSET := Lib.hid (show settleR seq rs p = (rs.set p rb).set (p + 1) ra from HSET.out)
    clear hs
    go_wp2_with (first
      | (refine wpList_load_blk (w := w1) rfl 51 _ rfl p7 4 rfl 51 _ r7 _ Tryd.underlying51 rfl (by kernel_rfl) rfl ?_)
      | (refine wpList_load_blk (w := w1) rfl 51 _ rfl p6 4 rfl 51 _ r6 _ Tryd.underlying51 rfl (by kernel_rfl) rfl ?_))
    refine (pick_any 1 rb.d rb.k rb.v rb.s ra.d ra.k ra.v ra.s rfl wb.1 wb.2.1 wb.2.2 wa.1 wa.2.1 wa.2.2 _).mono ?_
    rintro e w2 ⟨rfl, b2⟩
    have r6 := r6.after b2
    have r7 := r7.after b2
    have hz := OwnL.below hz b2
    have gz : w.grownBy w2 (some g) := Lib.grownBy_trans gz (grown_of_below b2 _)
    clear b2
    go_wp2_with (first
      | (refine Held.wpList_run (w := w2) rfl (v := .pointer (some ⟨g, 0 + p * 4, none⟩)) (Held.y_addr (S := fun _ => True) rfl rfl rfl (run_addr_of 48 51 g 0 n c p 4 .i64 Tryd.underlying48 (by kernel_rfl) hp0) _ trivial) ?_)
      | (refine wpList_store_lst (k := kRec) (w := w2) rfl 51 _ _ rfl (by kernel_rfl) base g n c p rs rb (by rw [Nat.zero_add]; rfl) rfl hz HLP.out ?_; intro w3 h3 g3; have gz := Lib.grownBy_trans gz g3; have r6 := r6.grown g3 (by simpa using g6); have r7 := r7.grown g3 (by simpa using g7))
      | (refine wpList_load_blk (w := w3) rfl 51 _ rfl p7 4 rfl 51 _ r7 _ Tryd.underlying51 rfl (by kernel_rfl) rfl ?_)
      | (refine wpList_load_blk (w := w3) rfl 51 _ rfl p6 4 rfl 51 _ r6 _ Tryd.underlying51 rfl (by kernel_rfl) rfl ?_)
      | (refine Held.wpList_run (w := w3) rfl (v := .int .i64 ((p + 1 : Nat) : Int)) (Held.y_int (S := fun _ => True) rfl rfl rfl (Held.run_add 3 .i64 HP1.out) _ trivial) ?_))
    refine (pick_any 1 ra.d ra.k ra.v ra.s rb.d rb.k rb.v rb.s rfl wa.1 wa.2.1 wa.2.2 wb.1 wb.2.1 wb.2.2 _).mono ?_
    rintro e w4 ⟨rfl, b4⟩
    have h4 := OwnL.below h3 b4
    have gz : w.grownBy w4 (some g) := Lib.grownBy_trans gz (grown_of_below b4 _)
    have HLQ' := Lib.hid (show p + 1 < (rs.set p rb).length by rw [List.length_set]; exact HLQ.out)
    go_wp2_with (first
      | (refine Held.wpList_run (w := w4) rfl (v := .pointer (some ⟨g, 0 + (p + 1) * 4, none⟩)) (Held.y_addr (S := fun _ => True) rfl rfl rfl (run_addr_of 48 51 g 0 n c (p + 1) 4 .i64 Tryd.underlying48 (by kernel_rfl) hp) _ trivial) ?_)
      | (refine wpList_store_lst (k := kRec) (w := w4) rfl 51 _ _ rfl (by kernel_rfl) base g n c (p + 1) (rs.set p rb) ra (by rw [Nat.zero_add]; rfl) rfl h4 HLQ'.out ?_; intro w5 h5 g5; have gz := Lib.grownBy_trans gz g5))
    go_end0
    exact ⟨⟨_, rfl⟩, by rw [HSET.out]; exact h5, gz⟩
  | false =>
    rw [hs] at HSET
    have HSET := Lib.hid (show settleR seq rs p = (rs.set p ra).set (p + 1) rb from HSET.out)
    clear hs
    go_wp2_with (first
      | (refine wpList_load_blk (w := w1) rfl 51 _ rfl p7 4 rfl 51 _ r7 _ Tryd.underlying51 rfl (by kernel_rfl) rfl ?_)
      | (refine wpList_load_blk (w := w1) rfl 51 _ rfl p6 4 rfl 51 _ r6 _ Tryd.underlying51 rfl (by kernel_rfl) rfl ?_))
    refine (pick_any 0 rb.d rb.k rb.v rb.s ra.d ra.k ra.v ra.s rfl wb.1 wb.2.1 wb.2.2 wa.1 wa.2.1 wa.2.2 _).mono ?_
    rintro e w2 ⟨rfl, b2⟩
    have r6 := r6.after b2
    have r7 := r7.after b2
    have hz := OwnL.below hz b2
    have gz : w.grownBy w2 (some g) := Lib.grownBy_trans gz (grown_of_below b2 _)
    clear b2
    go_wp2_with (first
      | (refine Held.wpList_run (w := w2) rfl (v := .pointer (some ⟨g, 0 + p * 4, none⟩)) (Held.y_addr (S := fun _ => True) rfl rfl rfl (run_addr_of 48 51 g 0 n c p 4 .i64 Tryd.underlying48 (by kernel_rfl) hp0) _ trivial) ?_)
      | (refine wpList_store_lst (k := kRec) (w := w2) rfl 51 _ _ rfl (by kernel_rfl) base g n c p rs ra (by rw [Nat.zero_add]; rfl) rfl hz HLP.out ?_; intro w3 h3 g3; have gz := Lib.grownBy_trans gz g3; have r6 := r6.grown g3 (by simpa using g6); have r7 := r7.grown g3 (by simpa using g7))
      | (refine wpList_load_blk (w := w3) rfl 51 _ rfl p7 4 rfl 51 _ r7 _ Tryd.underlying51 rfl (by kernel_rfl) rfl ?_)
      | (refine wpList_load_blk (w := w3) rfl 51 _ rfl p6 4 rfl 51 _ r6 _ Tryd.underlying51 rfl (by kernel_rfl) rfl ?_)
      | (refine Held.wpList_run (w := w3) rfl (v := .int .i64 ((p + 1 : Nat) : Int)) (Held.y_int (S := fun _ => True) rfl rfl rfl (Held.run_add 3 .i64 HP1.out) _ trivial) ?_))
    refine (pick_any 0 ra.d ra.k ra.v ra.s rb.d rb.k rb.v rb.s rfl wa.1 wa.2.1 wa.2.2 wb.1 wb.2.1 wb.2.2 _).mono ?_
    rintro e w4 ⟨rfl, b4⟩
    have h4 := OwnL.below h3 b4
    have gz : w.grownBy w4 (some g) := Lib.grownBy_trans gz (grown_of_below b4 _)
    have HLQ' := Lib.hid (show p + 1 < (rs.set p ra).length by rw [List.length_set]; exact HLQ.out)
    go_wp2_with (first
      | (refine Held.wpList_run (w := w4) rfl (v := .pointer (some ⟨g, 0 + (p + 1) * 4, none⟩)) (Held.y_addr (S := fun _ => True) rfl rfl rfl (run_addr_of 48 51 g 0 n c (p + 1) 4 .i64 Tryd.underlying48 (by kernel_rfl) hp) _ trivial) ?_)
      | (refine wpList_store_lst (k := kRec) (w := w4) rfl 51 _ _ rfl (by kernel_rfl) base g n c (p + 1) (rs.set p ra) rb (by rw [Nat.zero_add]; rfl) rfl h4 HLQ'.out ?_; intro w5 h5 g5; have gz := Lib.grownBy_trans gz g5))
    go_end0
    exact ⟨⟨_, rfl⟩, by rw [HSET.out]; exact h5, gz⟩
end Go.Proofs.YtlinmcgmkpkpaaaDoor.Mg
namespace Go.Proofs.YtlinmcgmkpkpaaaDoor.Sl
open Go.RowKit Go.Shelf Mem Held
section
variable {α : Type} {k : St α}
end
section
variable {α : Type} {k : St α} {P : Program} {ops : Array Oper} {rest : List Oper} {o : Oper} {a : Act} {w : World} {Q : Exit → Act → World → Prop}
end
end Go.Proofs.YtlinmcgmkpkpaaaDoor.Sl
namespace Go.Proofs.YtlinmcgmkpkpaaaDoor.Mg
open Go.RowKit Go.Shelf Go.Proofs.YtlinmcgmkpkpaaaDoor Mem Held Ct Rc Rs Sl
attribute [local irreducible] wpList wpListIn Calls
section
variable {P : Program} {S : World → Prop} {ρ : Operand → Value} {o : Oper}
theorem y_slnil {t e ty : TypeId} {x y : Operand} {A : Option Addr} {n c : Nat} (ho : o.op = .binOp .eql t x y ty) (hx : ρ x = .slice A n c) (hy : ρ y = .slice none 0 0) (hu : P.underlying t = some (.slice e)) : ∀ w, S w → (execOp ρ o).run P w = .ok (.value (.bool A.isNone)) w :=
  Held.y_bin ho hx hy (fun w => by cases A <;> simp [eqGuard]) (fun w => run_eql_slice_nil w t e A n c hu)
theorem run_append_zero (ts e : TypeId) (hu : P.underlying ts = some (.slice e)) (ie : TypeInfo) (hie : P.info? e = some ie) {ty : TypeId} (w : World) (As A : Option Addr) (n cap c : Nat) (hn : n ≤ cap) :
    (Builtin.append_ #[ts, ts] ty #[.slice As n cap, .slice A 0 c]).run P w = .ok (.slice As n cap) w := by
  cases A with
  | none => cases As <;> simp [Builtin.append_, run_underlying hu, sizeOf, typeInfo, hie, Builtin.lenOf, Builtin.firstCells, hn, storeCells]
  | some ad => cases As <;> simp [Builtin.append_, run_underlying hu, sizeOf, typeInfo, hie, Builtin.lenOf, Builtin.firstCells, hn, storeCells, loadCells, loadCellsFrom]
theorem run_build_none (ts e : TypeId) (hu : P.underlying ts = some (.slice e)) (ie : TypeInfo) (hie : P.info? e = some ie) (w : World) :
    (Instr.buildSlice ts 0 #[]).run P w = .ok (.slice (some ⟨w.heap.size, 0, none⟩) 0 0) (w.alloc (.cells #[] e)) := by
  simp [Instr.buildSlice, run_underlying hu, sizeOf, typeInfo, hie, newRow, Instr.fill]
  have : Array.range 0 = #[] := by simp
  rw [this, Array.map_empty]
end
section
variable {α : Type} {k : St α} {P : Program} {ops : Array Oper} {rest : List Oper} {o : Oper} {a : Act} {w : World} {Q : Exit → Act → World → Prop}
theorem wpList_append_all (hgd : o.guard = none) (s x : Operand) (ts e : TypeId) (ho : o.op = .call { callee := .builtin .append, args := #[s, x], argTypes := #[ts, ts] }) (hu : P.underlying ts = some (.slice e)) (z : Value) (bytes : Nat) (hinfo : (P.info? e).map (fun i => (i.zero, i.size, i.bytes)) = some (some z, k.s, bytes)) (hz : z.cells.size = k.s)
    (base B m c : Nat) (A : Option Addr) (v : Value) (xs ys : List α) (hs : a.eval s = v) (hx : a.eval x = .slice A m c) (hown : OwnL k e w base v xs) (hq : Lst k w B A m ys) (hm : xs.length + m ≤ 1048576) (hby : bytes ≤ 1048576) (hbase : base ≤ w.heap.size)
    (h : ∀ v' w', OwnL k e w' base v' (xs ++ ys) → w.grownBy w' v.ownBlock → (v'.ownBlock = v.ownBlock ∨ v'.ownBlock = some w.heap.size) → wpList P ops Q rest (a.put o.dst v') w') : wpList P ops Q (o :: rest) a w := by
  rcases Nat.eq_zero_or_pos m with h0 | h0
  · subst h0
    have e0 : ys = [] := List.eq_nil_of_length_eq_zero hq.1
    subst e0
    obtain ⟨A', c', rfl, hle, _⟩ := OwnL.form hown
    obtain ⟨ie, hie, _⟩ := info_parts hinfo
    exact Rs.wpList_append_ran hgd s x ts ts ho _ _ _ w hs hx (run_append_zero ts e hu ie hie w A' A _ c' c hle) (h _ w (by rw [List.append_nil]; exact hown) (World.grownBy.refl w _) (.inl rfl))
  · obtain ⟨g, off, rfl, _, _⟩ := hq.2.2 h0
    exact wpList_append_lst hgd s x ts e ho hu z bytes hinfo hz base B g off m c v xs ys hs hx hown hq hm hby hbase h
theorem wpList_build_none (hgd : o.guard = none) (ts e : TypeId) (ho : o.op = .buildSlice ts 0 #[]) (hu : P.underlying ts = some (.slice e)) (hinfo : (P.info? e).isSome = true)
    (h : ∀ w', Blk w' w.heap.size e #[] → w.grownBy w' none → wpList P ops Q rest (a.put o.dst (.slice (some ⟨w.heap.size, 0, none⟩) 0 0)) w') : wpList P ops Q (o :: rest) a w := by
  obtain ⟨ie, hie⟩ := Option.isSome_iff_exists.1 hinfo
  refine wpList_plain hgd fun K hK => ?_
  unfold Oper.wp execOp
  simp only [ho, Sem.run_bind, List.map_toArray, List.map_nil, run_build_none ts e hu ie hie w, Result.andThen_ok]
  exact hK _ _ (h _ (heap_alloc_new w _) (World.grownBy_alloc w _ none))
end
set_option maxRecDepth 100000 in
set_option maxHeartbeats 4000000 in
theorem clone_any (B : Nat) (A : Option Addr) (n c : Nat) (rs : List R) (w : World) (h : Lst kRec w B A n rs) (hB : B ≤ w.heap.size) (hn : n ≤ 1048576) :
    Calls Tryd.prog 70 #[.slice A n c] w fun e w' => ∃ v, e = .returned v ∧ OwnL kRec 51 w' w.heap.size v rs ∧ Below w.heap.size w w' := by
  go_enter Tryd.func70, Tryd.ntmps70
  cases A with
  | none =>
    have e0 : n = 0 := by
      rcases Nat.eq_zero_or_pos n with h0 | h0
      · exact h0
      · obtain ⟨_, _, e, _⟩ := h.2.2 h0
        cases e
    subst e0
    have e1 : rs = [] := List.eq_nil_of_length_eq_zero h.1
    subst e1
    go_wp2_with (refine Held.wpList_run (w := w) rfl (v := .bool true) (y_slnil (S := fun _ => True) (A := none) rfl rfl rfl Tryd.underlying48 _ trivial) ?_)
    go_ret
    exact ⟨_, rfl, OwnL.nil _ _ _ _, Below.refl _ _⟩
  | some ad =>
    have HL := Lib.hid h.1
    go_wp2_with (first
      | (refine Held.wpList_run (w := w) rfl (v := .bool false) (y_slnil (S := fun _ => True) (A := some ad) rfl rfl rfl Tryd.underlying48 _ trivial) ?_)
      | (at_builtin; refine wpList_append_all (k := kRec) (w := w1) rfl _ _ 48 51 rfl Tryd.underlying48 _ 32 info_kRec rfl w.heap.size B n c (some ad) _ [] rs rfl rfl o1 (Lst.below h (b1.mono hB)) (by simp; exact hn) (by omega) b1.size ?_; intro v2 w2 o2 g2 n2)
      | (refine wpList_build_none (w := w) rfl 48 51 rfl Tryd.underlying48 (by kernel_rfl) ?_; intro w1 q1 g1; have b1 : Below w.heap.size w w1 := (Below.refl _ w).grown g1 (Nat.le_refl _) (by simp); have o1 : OwnL kRec 51 w1 w.heap.size (.slice (some ⟨w.heap.size, 0, none⟩) 0 0) [] := own_of_blk (k := kRec) (xs := []) q1 (Nat.le_refl _) (by simp [maxLen])))
    have b2 : Below w.heap.size w w2 := b1.grown g2 b1.size (fun r e => by have e : some w.heap.size = some r := e; cases e; exact Nat.le_refl _)
    go_ret
    exact ⟨_, rfl, o2, b2⟩
end Go.Proofs.YtlinmcgmkpkpaaaDoor.Mg
namespace Go.Proofs.YtlinmcgmkpkpaaaDoor.Mg
open Go.RowKit Go.Shelf Go.Proofs.YtlinmcgmkpkpaaaDoor Mem Held Go.Proofs.YtlinmcgmkpkpaaaDoor.Range Ct Rc Rs Sl
attribute [local go_sem] Oper.semAt_some
attribute [local irreducible] wpList wpListIn Calls
def mark (D : Nat) : Deferred := { target := .collected D, args := #[] }
theorem leaves_marks {F : Fence} {n : Nat} {P : Program} {fn : Func} {tmps : Array Value} {Rz : Ending → World → Prop} {b0 : Nat} (J : World → Prop) (hJ : ∀ W D, J W → b0 ≤ D → W.heap[D]? = some (.deferred (some [])) → J (W.putObj D (.deferred none))) :
    ∀ (Ds : List Nat) (W : World), Ds.Nodup → (∀ D ∈ Ds, W.heap[D]? = some (.deferred (some [])) ∧ b0 ≤ D) → J W → (∀ W', J W' → LeavesInM F n P fn tmps Rz [] .returning W') → LeavesInM F n P fn tmps Rz (Ds.map mark) .returning W
  | [], W, _, _, hW, h => h W hW
  | D :: Ds, W, hn, hD, hW, h => by
    obtain ⟨h1, h2⟩ := hD D (by simp)
    obtain ⟨hn1, hn2⟩ := List.nodup_cons.1 hn
    refine ⟨by simp, .inl ⟨D, _, rfl, run_takeDeferred h1, ?_⟩⟩
    refine leaves_marks J hJ Ds _ hn2 (fun D' h' => ⟨(World.putObj_heap_other (fun e => hn1 (by subst e; exact h'))).trans (hD D' (by simp [h'])).1, (hD D' (by simp [h'])).2⟩) (hJ W D hW h2 h1) h
section
variable {α : Type} {k : St α} {t : TypeId} {w w' : World} {base n c : Nat} {A : Option Addr} {v : Value} {xs : List α}
theorem own_at0 (h : OwnL k t w base (.slice A n c) xs) (h0 : 0 < n) : ∃ g, A = some ⟨g, 0, none⟩ ∧ base ≤ g ∧ g < w.heap.size ∧ ∃ cur, w.heap[g]? = some (.cells cur t (0, 0)) := by
  rcases h.2 with ⟨e, hn⟩ | ⟨g, cap, cur, e, hb, hg, _⟩
  · injection e with e1 e2 e3
    omega
  · injection e with e1 e2 e3
    exact ⟨g, e1, hb, (Array.getElem?_eq_some_iff.1 hg).1, cur, hg⟩
end
theorem own_new {α : Type} {k : St α} {t : TypeId} {w w' : World} {base : Nat} {v : Value} {xs : List α} {row : Option Nat} (h : OwnL k t w base v xs) (hg : w.grownBy w' row) (hr : ∀ r, row = some r → ∀ b, v.ownBlock = some b → b ≠ r) : OwnL k t w' base v xs := by
  refine OwnL.kept h hg ?_
  cases hv : v.ownBlock with
  | none => exact .inl rfl
  | some b => exact .inr (fun e => hr b e.symm b hv rfl)
theorem own_cells {α : Type} {k : St α} {t : TypeId} {w : World} {base : Nat} {v : Value} {xs : List α} (h : OwnL k t w base v xs) {b : Nat} (e : v.ownBlock = some b) : ∃ cs, w.heap[b]? = some (.cells cs t (0, 0)) := by
  rcases h.2 with ⟨rfl, _⟩ | ⟨g', cap, cur, rfl, _, hg, _⟩
  · cases e
  · have e : some g' = some b := e
    injection e with e
    subst e
    exact ⟨cur, hg⟩
structure SI (w : World) (lb nb : Nat) (V : Value) (n : Nat) (seq : Bool) (Ds : List Nat) (xs : List R) (W : World) : Prop where
  own : OwnL kRec 51 W w.heap.size V xs
  lst : Blk W lb 48 #[V]
  num : Blk W nb 3 #[.int .i64 (n : Int)]
  sq : Blk W w.heap.size 4 #[.bool seq]
  marks : ∀ D ∈ Ds, W.heap[D]? = some (.deferred (some [])) ∧ w.heap.size ≤ D
  below : Below w.heap.size w W
theorem SI.grown {w : World} {lb nb : Nat} {V : Value} {n : Nat} {seq : Bool} {Ds : List Nat} {xs ys : List R} {W W' : World} {row : Option Nat} (h : SI w lb nb V n seq Ds xs W) (hg : W.grownBy W' row) (ho : OwnL kRec 51 W' w.heap.size V ys)
    (h1 : some lb ≠ row) (h2 : some nb ≠ row) (h3 : some w.heap.size ≠ row) (h4 : ∀ D ∈ Ds, some D ≠ row) (h5 : ∀ r, row = some r → w.heap.size ≤ r) : SI w lb nb V n seq Ds ys W' :=
  ⟨ho, h.lst.grown hg h1, h.num.grown hg h2, h.sq.grown hg h3, fun D hD => ⟨(hg.block D (Array.getElem?_eq_some_iff.1 (h.marks D hD).1).1 (h4 D hD)).trans (h.marks D hD).1, (h.marks D hD).2⟩, h.below.grown hg h.below.size h5⟩
theorem SI.far {w : World} {lb nb : Nat} {V : Value} {n : Nat} {seq : Bool} {Ds : List Nat} {xs : List R} {W W' : World} {row : Option Nat} {B : Nat} (h : SI w lb nb V n seq Ds xs W) (hg : W.grownBy W' row) (hr : ∀ r, row = some r → B ≤ r)
    (b1 : lb < B) (b2 : nb < B) (b3 : w.heap.size < B) (b4 : ∀ D ∈ Ds, D < B) (b5 : ∀ b, V.ownBlock = some b → b < B) : SI w lb nb V n seq Ds xs W' := by
  have ne : ∀ b, b < B → some b ≠ row := fun b hb e => by have := hr b e.symm; omega
  refine h.grown hg (h.own.kept hg ?_) (ne _ b1) (ne _ b2) (ne _ b3) (fun D hD => ne _ (b4 D hD)) (fun r e => by have := hr r e; omega)
  cases hv : V.ownBlock with
  | none => exact .inl rfl
  | some b => exact .inr (ne b (b5 b hv))
set_option maxRecDepth 100000 in
set_option maxHeartbeats 8000000 in
theorem sort_any (B : Nat) (A : Option Addr) (n c : Nat) (rs : List R) (seq : Bool) (w : World) (h : Lst kRec w B A n rs) (hB : B ≤ w.heap.size) (hn : n ≤ 1048576) :
    Calls Tryd.prog 58 #[.slice A n c, .bool seq] w fun e w' => ∃ v, e = .returned v ∧ OwnL kRec 51 w' w.heap.size v (sortR seq rs) ∧ Below w.heap.size w w' := by
  have HL := Lib.hid h.1
  have HW := Lib.hid h.2.1
  have HO := Lib.hid (show oetR seq n rs = sortR seq rs by rw [← oet_is, h.1])
  refine (callsIn_wide (n := 3)).1 ?_
  refine callsIn_of_wp_marks Tryd.func58 rfl trivial ?_ rfl
  simp only [Tryd.ntmps58, List.size_toArray, List.length_cons, List.length_nil, Nat.reduceAdd, Nat.reduceSub, Array.replicate_succ, Array.replicate_zero, List.push_toArray, List.append_toArray, List.nil_append, List.cons_append]
  refine wpIn_wide.2 ?_
  go_wp2_with (refine Held.wpList_box_cell (w := w) rfl 4 _ rfl (.bool seq) rfl rfl ?_; intro w1 q1 g1 z1)
  refine wp_scope_straight ?_
  have b1 : Below w.heap.size w w1 := (Below.refl _ w).grown g1 (Nat.le_refl _) (by simp)
  go_wp2_with fail
  refine (clone_any B A n c rs w1 (Lst.below h (b1.mono hB)) (Nat.le_trans hB b1.size) hn).mono ?_
  rintro e w2 ⟨v, rfl, o2, b2⟩
  obtain ⟨A', n', c', rfl, hn', _⟩ := OwnL.form2 o2
  obtain rfl : n' = n := hn'.out.symm.trans HL.out
  have q1 : Blk w1 w.heap.size 4 #[.bool seq] := q1
  have q2 := q1.after b2
  have c2 := b1.trans (b2.mono b1.size)
  have o2 := OwnL.less o2 b1.size
  clear h q1 g1 b1 b2 hn'
  go_wp2_with (first
    | (refine Held.wpList_alloc_cell (w := w2) rfl 48 rfl (.slice none 0 0) (by kernel_rfl) rfl ?_; intro w3 q3 g3 z3)
    | (refine Held.wpList_store_box (w := w3) rfl 48 _ _ rfl w2.heap.size rfl _ _ (.slice A' n' c') rfl q3 (by kernel_rfl) rfl rfl ?_; intro w4 q4 g4; have cb4 := cell_of_one q4)
    | (refine Held.wpList_alloc_cell (w := w4) rfl 3 rfl (.int .i64 0) (by kernel_rfl) rfl ?_; intro w5 q5 g5 z5)
    | (refine Held.wpList_store_box (w := w5) rfl 3 _ _ rfl w4.heap.size rfl _ _ (.int .i64 (n' : Int)) rfl q5 (by kernel_rfl) rfl rfl ?_; intro w6 q6 g6; have cb6 := cell_of_one q6))
  have s3 := g3.size
  have s4 := g4.size
  have s5 := g5.size
  have s6 := g6.size
  have s2 := (Array.getElem?_eq_some_iff.1 q2).1
  have h6 : SI w w2.heap.size w4.heap.size (.slice A' n' c') n' seq [] rs w6 := by
    have k3 := z3.out
    have k5 := z5.out
    have hlt := fun b hb => (OwnL.lt o2 b hb).2
    have o3 := own_new o2 g3 (fun r e => by cases e)
    have o4 := own_new o3 g4 (fun r e b hb => by cases e; have := hlt b hb; omega)
    have o5 := own_new o4 g5 (fun r e => by cases e)
    have o6 := own_new o5 g6 (fun r e b hb => by cases e; have := hlt b hb; omega)
    have y3 := Blk.grown q2 g3 (by simp)
    have y4 := Blk.grown y3 g4 (by intro e; injection e with e; omega)
    have y5 := Blk.grown y4 g5 (by simp)
    have y6 := Blk.grown y5 g6 (by intro e; injection e with e; omega)
    have q4 : Blk w4 w2.heap.size 48 #[.slice A' n' c'] := q4
    have x5 := Blk.grown q4 g5 (by simp)
    have x6 := Blk.grown x5 g6 (by intro e; injection e with e; omega)
    exact ⟨o6, x6, q6, y6, fun D hD => by simp at hD, (((c2.grown g3 c2.size (by simp)).grown g4 (by omega) (fun r e => by cases e; omega)).grown g5 (by omega) (by simp)).grown g6 (by omega) (fun r e => by cases e; omega)⟩
  clear q2 o2 q3 g3 q4 g4 q5 g5 q6 g6 c2 q1 z1
  apply wp_label
  go_wp2_with fail
  have hlb : w.heap.size < w2.heap.size := s2
  have hnb : w2.heap.size < w4.heap.size := by have := z3.out; omega
  have hnz : w4.heap.size < w6.heap.size := by have := z5.out; omega
  generalize w2.heap.size = lb at *
  generalize w4.heap.size = nb at *
  have hon : ∀ b, (Value.slice A' n' c').ownBlock = some b → b < w6.heap.size := fun b hb => (OwnL.lt h6.own b hb).2
  clear s2 s3 s4 s5 s6 z3 z5
  refine wp_loop (fun a W => ∃ (r : Nat) (Ds : List Nat) (v7 v15 v16 v17 v18 v19 v20 v30 : Value), r ≤ n' ∧ a = { tmps := #[.slice A n' c, .bool seq, undef, .pointer (some ⟨w.heap.size, 0, none⟩), .slice none 0 0, .pointer (some ⟨lb, 0, none⟩), .pointer (some ⟨nb, 0, none⟩), v7, undef, .slice A n' c, .slice A' n' c', .slice A' n' c', .int .i64 (n' : Int), .int .i64 (n' : Int), .int .i64 (r : Int), v15, v16, v17, v18, v19, v20, undef, undef, undef, undef, undef, undef, undef, undef, undef, v30, undef], defers := Ds.map mark } ∧ Ds.Nodup ∧ w6.heap.size ≤ W.heap.size ∧ SI w lb nb (.slice A' n' c') n' seq Ds (oetR seq r rs) W) (fun a _ => n' - (intOf (a.tmps.getD 14 undef)).toNat) ?_ ?_
  · exact ⟨0, [], undef, undef, undef, undef, undef, undef, undef, undef, by omega, rfl, List.nodup_nil, Nat.le_refl _, h6⟩
  · rintro a wr ⟨r, Ds, v7, v15, v16, v17, v18, v19, v20, v30, hr, rfl, hnd, hsz, hI⟩
    clear h6
    by_cases hlt : r < n'
    · have hlt' : (r : Int) < (n' : Int) := by omega
      obtain ⟨g, rfl, hg0, hgw, _⟩ := own_at0 hI.own (by omega)
      obtain ⟨f, hf⟩ : ∃ f, r % 2 = f := ⟨_, rfl⟩
      have hf1 : f ≤ 1 := by omega
      have hmod : ((r : Int)).tmod 2 = (f : Int) := by rw [Bi.rem_of (by omega)]; omega
      have hm := fun W => Held.run_rem (P := Tryd.prog) 3 .i64 (a := (r : Int)) (b := 2) (r := (f : Int)) (by omega) hmod W
      have knb := hI.num.cell (i := 0) rfl
      clear hmod
      go_wp2_with (refine Held.wpList_run (w := wr) rfl (v := .int .i64 (f : Int)) (Bi.y_rem (S := fun _ => True) (r : Int) 2 rfl rfl rfl hm _ trivial) ?_)
      refine (other_any (f : Int) (n' : Int) wr).mono ?_
      rintro e u ⟨bf, bn, rfl, qf, qn, hbf, hbn, bu⟩
      have hob : ∀ b, (Value.slice (some ⟨g, 0, none⟩) n' c').ownBlock = some b → b = g := fun b e => by have e : some g = some b := e; injection e with e; exact e.symm
      have hgl : g ≠ lb := fun e => OwnL.ne_blk hI.own hI.lst (by decide) (by rw [e]; rfl)
      have hgn : g ≠ nb := fun e => OwnL.ne_blk hI.own hI.num (by decide) (by rw [e]; rfl)
      have hgs : g ≠ w.heap.size := fun e => OwnL.ne_blk hI.own hI.sq (by decide) (by rw [e]; rfl)
      have hDl : ∀ D ∈ Ds, D < wr.heap.size := fun D hD => (Array.getElem?_eq_some_iff.1 (hI.marks D hD).1).1
      have hgr : g < w6.heap.size := hon g rfl
      have szu := bu.size
      have hu : SI w lb nb (.slice (some ⟨g, 0, none⟩) n' c') n' seq Ds (oetR seq r rs) u := hI.far (B := wr.heap.size) (grown_of_below bu none) (by simp) (by omega) (by omega) (by omega) hDl (fun b e => by have := hob b e; omega)
      have HXL := Lib.hid (show (oetR seq r rs).length = n' by rw [oetR_length]; exact HL.out)
      have HXW := Lib.hid (show ∀ x ∈ oetR seq r rs, x.wf from fun x hx => HW.out x ((oet_perm seq r rs).mem_iff.1 hx))
      have HNX := Lib.hid (show oetR seq (r + 1) rs = stepsR seq f ((n' - f) / 2) (oetR seq r rs) by rw [oetR, roundR, HXL.out, hf])
      generalize oetR seq r rs = xs at hu HXL HXW HNX
      have hit := fun M => places_stop M bn bf (fun b => b = g) f n' u hf1 (by omega) (qn.cell rfl) (qf.cell rfl) (fun e => by omega) (fun e => by omega)
      clear hI qf qn knb hm hf
      go_wp2_with fail
      refine (wpIn_wide (n := 3)).1 ?_
      refine wpIn_rangeFunc_stop rfl (by omega) (gf := 90) (lb := #[.pointer (some ⟨bn, 0, none⟩), .pointer (some ⟨bf, 0, none⟩)]) rfl trivial (enters_of Tryd.func90 (by kernel_rfl) rfl)
        (hit _) (fun h k => h.trans k) (fun W l o o' hl ho hc _ => Only.put W l o o' ho hc) (Below.refl _ _) (fun _ => rfl)
        (n' + 2) (fun k W => f + 2 * k ≤ n' ∧ SI w lb nb (.slice (some ⟨g, 0, none⟩) n' c') n' seq Ds (stepsR seq f k xs) W) (fun cd k W => cd = .exit 1 ∧ SI w lb nb (.slice (some ⟨g, 0, none⟩) n' c') n' seq Ds (stepsR seq f ((n' - f) / 2) xs) W)
        (fun k A B row h hg hr => ⟨h.1, h.2.far hg hr (by omega) (by omega) (by omega) (fun D hD => by have := hDl D hD; omega) (fun b e => by have := hob b e; omega)⟩)
        (fun cd k A B row h hg hr => ⟨h.1, h.2.far hg hr (by omega) (by omega) (by omega) (fun D hD => by have := hDl D hD; omega) (fun b e => by have := hob b e; omega)⟩)
        (fun k W h => by have := h.1; omega) ⟨by omega, hu⟩
        (fun x a' k W => SI w lb nb (.slice (some ⟨g, 0, none⟩) n' c') n' seq Ds (stepsR seq f k xs) W ∧ a' = { tmps := #[.slice A n' c, .bool seq, undef, .pointer (some ⟨w.heap.size, 0, none⟩), .slice none 0 0, .pointer (some ⟨lb, 0, none⟩), .pointer (some ⟨nb, 0, none⟩), .int .i64 (r : Int), .int .i64 (x : Int), .slice A n' c, .slice (some ⟨g, 0, none⟩) n' c', .slice (some ⟨g, 0, none⟩) n' c', .int .i64 (n' : Int), .int .i64 (n' : Int), .int .i64 (r : Int), .bool true, .int .i64 (r : Int), .int .i64 (r : Int), .int .i64 (f : Int), .int .i64 (n' : Int), .func (.func 90) #[] #[.pointer (some ⟨bn, 0, none⟩), .pointer (some ⟨bf, 0, none⟩)], .int .i64 (x : Int), undef, undef, undef, undef, undef, undef, undef, undef, v30, undef], defers := [] }) ?ib ?assign ?body ?done ?stop
      case ib =>
        rintro x a' k W W' row ⟨hi, h3⟩ hgr2 hrow
        exact ⟨hi.far (B := u.heap.size) hgr2 (fun r e => (hrow r e).1) (by omega) (by omega) (by omega) (fun D hD => by have := hDl D hD; omega) (fun b e => by have := hob b e; omega), h3⟩
      case assign =>
        intro l k x W K' hi hat hsz' hK
        simp only [encP, Held.zip_one, List.setIfInBounds_toArray, List.set_cons_zero, List.set_cons_succ]
        gi_wp2_with fail
        exact hK _ _ (KeepsOthers.refl _) (Only.refl _ _) ⟨hi.2, rfl⟩
      case body =>
        rintro l k x a' W hl hrec ⟨hi, rfl⟩ hat hsz'
        obtain ⟨hx, hxn⟩ := atP_some hat
        have knb := hi.num.cell (i := 0) rfl
        have klb := hi.lst.cell (i := 0) rfl
        have ksq := hi.sq.cell (i := 0) rfl
        have hsub : IntKind.i64.wrap ((n' : Int) - 1) = ((n' - 1 : Nat) : Int) := by rw [IntKind.wrap_i64]; omega
        by_cases hlast : x = n' - 1
        · have hdec : decide ((x : Int) = ((n' - 1 : Nat) : Int)) = true := by simp; omega
          have hk : k = (n' - f) / 2 := by omega
          subst hk
          clear hit hat
          gi_wp2_with (first
            | (refine Held.wpListIn_one (r := some l) rfl (by intro c e; cases e) ?_; refine Held.wpList_run (w := W) rfl (v := .int .i64 ((n' - 1 : Nat) : Int)) (Bi.y_sub (S := fun _ => True) (n' : Int) 1 rfl rfl rfl hsub _ trivial) ?_; refine wpList_nil ⟨rfl, ?_⟩)
            | (refine Held.wpListIn_one (r := some l) rfl (by intro c e; cases e) ?_; refine Held.wpList_run (w := W) rfl (v := .bool true) (Held.y_eqI (S := fun _ => True) rfl rfl rfl hdec _ trivial) ?_; refine wpList_nil ⟨rfl, ?_⟩; simp only [Act.put, Z1, Z2, Z3]))
          exact ⟨KeepsOthers.refl _, rfl, hi⟩
        · have hdec : decide ((x : Int) = ((n' - 1 : Nat) : Int)) = false := by simp; omega
          have hx1 : x + 1 < n' := by omega
          have hset := settle_any seq w.heap.size g n' c' x (stepsR seq f k xs) W hi.own (fun y hy => HXW.out y ((steps_perm seq f k xs (by have := HXL.out; omega)).mem_iff.1 hy)) hx1 (by omega)
          have HST := Lib.hid (show settleR seq (stepsR seq f k xs) x = stepsR seq f (k + 1) xs by rw [hx]; rfl)
          have hcl : ∃ cs, W.heap[g]? = some (.cells cs 51 (0, 0)) := by
            obtain ⟨g', e1, _, _, cur, e2⟩ := own_at0 hi.own (by omega)
            injection e1 with e1
            injection e1 with e1
            subst e1
            exact ⟨cur, e2⟩
          have HX := Lib.hid hx
          clear hit hat hx
          gi_wp2_with (first
            | (refine Held.wpListIn_one (r := some l) rfl (by intro c e; cases e) ?_; refine Held.wpList_run (w := W) rfl (v := .int .i64 ((n' - 1 : Nat) : Int)) (Bi.y_sub (S := fun _ => True) (n' : Int) 1 rfl rfl rfl hsub _ trivial) ?_; refine wpList_nil ⟨rfl, ?_⟩)
            | (refine Held.wpListIn_one (r := some l) rfl (by intro c e; cases e) ?_; refine Held.wpList_run (w := W) rfl (v := .bool false) (Held.y_eqI (S := fun _ => True) rfl rfl rfl hdec _ trivial) ?_; refine wpList_nil ⟨rfl, ?_⟩; simp only [Act.put, Z1, Z2, Z3]))
          refine ⟨trivial, ?_⟩
          refine (CallsIn.inRound l (callsIn_wide.2 hset)).mono ?_
          rintro e w7 ⟨⟨v, rfl⟩, o7, g7⟩
          gi_wp2_with fail
          rw [HST.out] at o7
          obtain ⟨cs, hcs⟩ := hcl
          have hgD : ∀ D ∈ Ds, some D ≠ some g := fun D hD e => by
            injection e with e
            have := (hi.marks D hD).1
            rw [e, hcs] at this
            cases this
          exact ⟨Held.others_of_grown hcs g7, Only.of_grown g7 (fun r e => by cases e; rfl), by have := HX.out; omega, hi.grown g7 o7 (by intro e; injection e with e; omega) (by intro e; injection e with e; omega) (by intro e; injection e with e; omega) hgD (fun r e => by cases e; omega)⟩
      case done =>
        rintro D k W hD hat ⟨hk, hi⟩ hDl'
        have hnk := atP_none hat
        obtain rfl : k = (n' - f) / 2 := by omega
        clear hit hat
        go_wp2_with fail
        have hDn : D ∉ Ds := fun hm => by have := hDl D hm; omega
        have hDW := (Array.getElem?_eq_some_iff.1 hDl').1
        have hcast : ((r + 1 : Nat) : Int) = (r : Int) + 1 := by omega
        refine ⟨⟨r + 1, D :: Ds, .int .i64 (r : Int), .bool true, .int .i64 (r : Int), .int .i64 (r : Int), .int .i64 (f : Int), .int .i64 (n' : Int), .func (.func 90) #[] #[.pointer (some ⟨bn, 0, none⟩), .pointer (some ⟨bf, 0, none⟩)], .int .i64 ((r : Int) + 1), by omega, by rw [hcast]; rfl, List.nodup_cons.2 ⟨hDn, hnd⟩, by omega, ?_⟩, ?_⟩
        · rw [HNX.out]
          exact ⟨hi.own, hi.lst, hi.num, hi.sq, fun D' hm => (List.mem_cons.1 hm).elim (fun e => by subst e; exact ⟨hDl', by omega⟩) (fun h' => hi.marks D' h'), hi.below⟩
        · simp [intOf]; omega
      case stop =>
        rintro D cd k W hD ⟨rfl, hi⟩ hDl'
        clear hit
        refine wpIn_wide.2 ?_
        go_wp2_with fail
        have hDn : D ∉ Ds := fun hm => by have := hDl D hm; omega
        have hDW := (Array.getElem?_eq_some_iff.1 hDl').1
        have hcast : ((r + 1 : Nat) : Int) = (r : Int) + 1 := by omega
        refine ⟨⟨r + 1, D :: Ds, .int .i64 (r : Int), .bool true, .int .i64 (r : Int), .int .i64 (r : Int), .int .i64 (f : Int), .int .i64 (n' : Int), .func (.func 90) #[] #[.pointer (some ⟨bn, 0, none⟩), .pointer (some ⟨bf, 0, none⟩)], .int .i64 ((r : Int) + 1), by omega, by rw [hcast]; rfl, List.nodup_cons.2 ⟨hDn, hnd⟩, by omega, ?_⟩, ?_⟩
        · rw [HNX.out]
          exact ⟨hi.own, hi.lst, hi.num, hi.sq, fun D' hm => (List.mem_cons.1 hm).elim (fun e => by subst e; exact ⟨hDl', by omega⟩) (fun h' => hi.marks D' h'), hi.below⟩
        · simp [intOf]; omega
    · obtain rfl : r = n' := by omega
      have klb := hI.lst.cell (i := 0) rfl
      obtain ⟨L, hL⟩ : ∃ L, Ds.map mark = L := ⟨_, rfl⟩
      have HLm := Lib.hid hL
      rw [hL]
      clear hL
      go_wp2_with fail
      rw [HO.out] at hI
      change LeavesInM _ _ _ _ _ _ L .returning wr
      rw [← HLm.out]
      refine leaves_marks (b0 := w.heap.size) (fun W => OwnL kRec 51 W w.heap.size (.slice A' r c') (sortR seq rs) ∧ Below w.heap.size w W) (fun W D hJ hD hDl => ?_) Ds wr hnd hI.marks ⟨hI.own, hI.below⟩ ?_
      case refine_2 => exact fun W' hJ => ⟨_, results_tmp (t := 4) rfl _ _ _, .slice A' r c', rfl, hJ.1, hJ.2⟩
      refine ⟨own_new hJ.1 (grownBy_putObj' W D _) (fun r e b hb => ?_), hJ.2.grown (grownBy_putObj' W D _) hJ.2.size (fun r e => by cases e; exact hD)⟩
      cases e
      obtain ⟨cs, hcs⟩ := own_cells hJ.1 hb
      intro e
      rw [e, hDl] at hcs
      cases hcs
end Go.Proofs.YtlinmcgmkpkpaaaDoor.Mg
namespace Go.Proofs.YtlinmcgmkpkpaaaDoor.Mg
open Go.RowKit Go.Shelf Go.Proofs.YtlinmcgmkpkpaaaDoor Mem Held Ct Rc Rs Sl
attribute [local irreducible] wpList wpListIn Calls
theorem run_front_nil {P : Program} {t e : TypeId} (sz : Nat) (ht : P.underlying t = some (.slice e)) (hs : (P.info? e).map (·.size) = some sz) (w : World) : (Instr.sliceAt t (.slice none 0 0) none (some (.int .i64 0)) none).run P w = .ok (.slice none 0 0) w := by
  have he : P.elem t = e := by simp [Program.elem, ht]
  have ht' : P.underlying t = some (.slice (P.elem t)) := by rw [he]; exact ht
  obtain ⟨inf, hi, h1⟩ := Option.map_eq_some_iff.1 hs
  have hz : (sizeOf e).run P w = .ok sz w := by simp [sizeOf, typeInfo, hi, h1]
  rw [run_sliceAt_slice w t _ _ _ _ ht', run_slice_h w t _ 0 0 ht' .i64 0 (by omega) (by omega), he, hz]
  rfl
theorem run_back_nil {P : Program} {t e : TypeId} (sz : Nat) (ht : P.underlying t = some (.slice e)) (hs : (P.info? e).map (·.size) = some sz) (A : Option Addr) (n cap : Nat) : ∃ A' c', ∀ w : World, (Instr.sliceAt t (.slice A n cap) (some (.int .i64 (n : Int))) none none).run P w = .ok (.slice A' 0 c') w := by
  have he : P.elem t = e := by simp [Program.elem, ht]
  have ht' : P.underlying t = some (.slice (P.elem t)) := by rw [he]; exact ht
  obtain ⟨inf, hi, h1⟩ := Option.map_eq_some_iff.1 hs
  refine ⟨if cap = n then A else A.map (·.add (n * sz)), cap - n, fun w => ?_⟩
  have hz : (sizeOf e).run P w = .ok sz w := by simp [sizeOf, typeInfo, hi, h1]
  rw [run_sliceAt_slice w t _ _ _ _ ht', run_slice_l w t _ n cap ht' .i64 _ (by omega) (by omega), he, hz]
  simp only [Result.andThen, sliced, Int.toNat_natCast, Nat.sub_self]
theorem own_parts {w : World} {base n c h : Nat} {A : Option Addr} {rs : List R} (ho : OwnL kRec 51 w base (.slice A n c) rs) (hw : ∀ r ∈ rs, r.wf) (hh : h ≤ n) :
    ∃ A1 A2 c2, (∀ W : World, (Instr.sliceAt 48 (.slice A n c) none (some (.int .i64 (h : Int))) none).run Tryd.prog W = .ok (.slice A1 h c) W) ∧ (∀ W : World, (Instr.sliceAt 48 (.slice A n c) (some (.int .i64 (h : Int))) none none).run Tryd.prog W = .ok (.slice A2 (n - h) c2) W) ∧
      Lst kRec w w.heap.size A1 h (rs.take h) ∧ Lst kRec w w.heap.size A2 (n - h) (rs.drop h) := by
  have hl := OwnL.lst ho hw
  have hL := hl.1
  rcases Nat.eq_zero_or_pos n with h0 | h0
  · obtain rfl : h = 0 := by omega
    obtain ⟨A', c', e, hc, _⟩ := OwnL.form ho
    injection e with e1 e2 e3
    subst h0
    obtain rfl : rs = [] := List.eq_nil_of_length_eq_zero hL
    rcases ho.2 with ⟨e, _⟩ | ⟨g, cap, cur, e, _⟩
    · injection e with e1 e2 e3
      subst e1
      subst e3
      obtain ⟨A2, c2, hb⟩ := run_back_nil (P := Tryd.prog) 4 Tryd.underlying48 (by kernel_rfl) none 0 0
      exact ⟨none, A2, c2, fun W => run_front_nil (P := Tryd.prog) 4 Tryd.underlying48 (by kernel_rfl) W, hb, Lst.nil _ _ _ _, Lst.nil _ _ _ _⟩
    · injection e with e1 e2 e3
      subst e1
      obtain ⟨A2, c2, hb⟩ := run_back_nil (P := Tryd.prog) 4 Tryd.underlying48 (by kernel_rfl) (some ⟨g, 0, none⟩) 0 c
      exact ⟨_, A2, c2, fun W => run_front_s (P := Tryd.prog) 4 Tryd.underlying48 (by kernel_rfl) g 0 0 c (h := 0) (by omega) W, hb, Lst.nil _ _ _ _, Lst.nil _ _ _ _⟩
  · obtain ⟨b, off, rfl, hb, hr⟩ := hl.2.2 h0
    obtain ⟨A', c', e, hc, _⟩ := OwnL.form ho
    injection e with e1 e2 e3
    have hnc : n ≤ c := by rw [← hL, e3]; exact hc
    have hd : Lst kRec w w.heap.size (some ⟨b, off + h * 4, none⟩) (n - h) (rs.drop h) := by
      refine ⟨by rw [List.length_drop, hL], fun x hx => hl.2.1 x (List.mem_of_mem_drop hx), fun _ => ⟨b, off + h * 4, rfl, hb, fun j v hv => ?_⟩⟩
      have hf : Sl.flat kRec (rs.drop h) = (Sl.flat kRec rs).drop (h * 4) := (flat_drop (k := kRec) rs h (by omega)).symm
      rw [hf, List.getElem?_drop] at hv
      have := hr (h * 4 + j) v hv
      rwa [← Nat.add_assoc] at this
    by_cases hhn : h < c
    · exact ⟨_, _, _, fun W => run_front_s (P := Tryd.prog) 4 Tryd.underlying48 (by kernel_rfl) b off n c (h := h) (by omega) W, fun W => run_back_s (P := Tryd.prog) 4 Tryd.underlying48 (by kernel_rfl) b off n c (l := h) hh hhn W, lst_take hl h hh, hd⟩
    · obtain rfl : h = n := by omega
      obtain ⟨A2, c2, hb2⟩ := run_back_nil (P := Tryd.prog) 4 Tryd.underlying48 (by kernel_rfl) (some ⟨b, off, none⟩) h c
      refine ⟨_, A2, c2, fun W => run_front_s (P := Tryd.prog) 4 Tryd.underlying48 (by kernel_rfl) b off h c (h := h) (by omega) W, fun W => by rw [Nat.sub_self]; exact hb2 W, lst_take hl h hh, ?_⟩
      rw [Nat.sub_self, List.drop_of_length_le (by omega)]
      exact Lst.nil _ _ _ _
set_option maxRecDepth 100000 in
set_option maxHeartbeats 4000000 in
theorem grow_any (n : Nat) (w : World) (hn : n ≤ 1048576) :
    Calls Tryd.prog 36 #[.slice none 0 0, .int .i64 (n : Int)] w fun e w' => ∃ v, e = .returned v ∧ OwnL kRec 51 w' w.heap.size v [] ∧ Below w.heap.size w w' := by
  go_enter Tryd.func36, Tryd.ntmps36
  by_cases h0 : n = 0
  · subst h0
    go_wp2_with fail
    go_ret
    exact ⟨_, rfl, OwnL.nil _ _ _ _, Below.refl _ _⟩
  · have h1 : ¬ (n : Int) < 0 := by omega
    have h2 : (n : Int) > 0 := by omega
    obtain ⟨ie, hie, hz, hsz, hby⟩ := info_parts info_kRec
    have hr := fun ty => Lib.run_append_nil_zeros (P := Tryd.prog) w 48 3 ty 51 ie _ .i64 .i64 Tryd.underlying48 Tryd.underlying3 hie hz n (by omega) (by rw [hsz]; decide) (by omega) (by rw [hby]; omega)
    have hge := grownCap_ge w n 0 51
    have hcm : grownCap w n 0 51 ≤ maxLen := grownCap_le_maxLen w n 0 51 (by simp only [maxLen]; omega)
    have hcs : (Builtin.zeroCells (Value.agg (kRec.cells kRec.d).toArray).cells n ++ Builtin.zeroCells (Value.agg (kRec.cells kRec.d).toArray).cells (grownCap w n 0 51 - n)).size = grownCap w n 0 51 * 4 := by
      rw [Array.size_append, size_zeroCells, size_zeroCells, show (Value.agg (kRec.cells kRec.d).toArray).cells.size = 4 from rfl]
      omega
    generalize grownCap w n 0 51 = cap at hr hge hcm hcs
    generalize (Builtin.zeroCells (Value.agg (kRec.cells kRec.d).toArray).cells n ++ Builtin.zeroCells (Value.agg (kRec.cells kRec.d).toArray).cells (cap - n)) = cs at hr hcs
    obtain ⟨w1, hw1⟩ : ∃ w1, w.drew.alloc (.cells cs 51) = w1 := ⟨_, rfl⟩
    have q1 : Blk w1 w.heap.size 51 cs := by rw [← hw1]; exact heap_alloc_new w.drew _
    have b1 : Below w.heap.size w w1 := by rw [← hw1]; exact (Below.refl w.heap.size w).drew.alloc (Nat.le_refl _) _
    rw [hw1] at hr
    clear hw1 hie hz hsz hby
    go_wp2_with (first
      | (refine Held.wpList_run (w := w) rfl (v := .slice none 0 0) (Held.y_slice (S := fun _ => True) rfl (fun W => run_front_nil (P := Tryd.prog) 4 Tryd.underlying48 (by kernel_rfl) W) _ trivial) ?_)
      | (at_builtin; refine Rs.wpList_append_ran (w := w) rfl _ _ 48 3 rfl _ _ _ w1 rfl rfl (hr _) ?_)
      | (refine Held.wpList_run (w := w1) rfl (v := .slice (some ⟨w.heap.size, 0, none⟩) 0 cap) (Held.y_slice (S := fun _ => True) rfl (fun W => run_front_s (P := Tryd.prog) 4 Tryd.underlying48 (by kernel_rfl) w.heap.size 0 n cap (h := 0) (by omega) W) _ trivial) ?_))
    go_ret
    refine ⟨_, rfl, ⟨rfl, .inr ⟨w.heap.size, cap, cs, rfl, Nat.le_refl _, q1, Nat.zero_le _, hcm, hcs, ?_⟩⟩, b1⟩
    simp [Sl.flat]
end Go.Proofs.YtlinmcgmkpkpaaaDoor.Mg
namespace Go.Proofs.YtlinmcgmkpkpaaaDoor.Mg
open Go.RowKit Go.Shelf Go.Proofs.YtlinmcgmkpkpaaaDoor Mem Held Ct Rc Rs Sl
attribute [local irreducible] wpList wpListIn Calls
section
variable {α : Type} {k : St α} {P : Program} {ops : Array Oper} {o : Oper} {a : Act} {w : World} {Q : Exit → Act → World → Prop}
theorem run_append_all (w : World) (ts ty e : TypeId) (hu : P.underlying ts = some (.slice e)) (z : Value) (bytes : Nat) (hinfo : (P.info? e).map (fun i => (i.zero, i.size, i.bytes)) = some (some z, k.s, bytes)) (hz : z.cells.size = k.s)
    (base B m c : Nat) (A : Option Addr) (v : Value) (xs ys : List α) (hown : OwnL k e w base v xs) (hq : Lst k w B A m ys) (hm : xs.length + m ≤ 1048576) (hby : bytes ≤ 1048576) (hbase : base ≤ w.heap.size) :
    ∃ v' w', (Builtin.append_ #[ts, ts] ty #[v, .slice A m c]).run P w = .ok v' w' ∧ OwnL k e w' base v' (xs ++ ys) ∧ w.grownBy w' v.ownBlock ∧ (v'.ownBlock = v.ownBlock ∨ v'.ownBlock = some w.heap.size) := by
  obtain ⟨ie, hie, hz0, hsz, hb⟩ := info_parts hinfo
  rcases Nat.eq_zero_or_pos m with h0 | h0
  · subst h0
    have e0 : ys = [] := List.eq_nil_of_length_eq_zero hq.1
    subst e0
    obtain ⟨A', c', rfl, hle, _⟩ := OwnL.form hown
    exact ⟨_, w, run_append_zero ts e hu ie hie w A' A _ c' c hle, by rw [List.append_nil]; exact hown, World.grownBy.refl w _, .inl rfl⟩
  · obtain ⟨g, off, rfl, _, hc⟩ := hq.2.2 h0
    obtain ⟨v', w', h1, h2, h3, _, h5⟩ := run_append_own_at (P := P) w base ts ty e ie z k.s bytes hu hie hz0 hsz hb hz k.pos v xs.length (flat k xs) hown ⟨g, off, none⟩ m c (flat k ys) (by rw [Sl.flat_length, hq.1])
      (fun j u hj => by rw [show (Addr.mk g off none).add j = ⟨g, off + j, none⟩ by (unfold Addr.add; split <;> simp_all)]; exact hc j u hj) (flat_cell ys) (by unfold maxLen; omega) (Nat.le_trans (Nat.mul_le_mul hm hby) (by omega)) hbase
    refine ⟨v', w', h1, ?_, h3, h5⟩
    unfold OwnL
    rw [Sl.flat_append, List.length_append, hq.1]
    exact h2
theorem op_append_all (i : Nat) (d : Option Tmp) {K : Act → World → Prop} {s x : Operand} (ts e : TypeId) (hi : ops[i]? = some o) (hd : o.dst = d) (hw : Region.wanted o (yielded ops a.tmps) = true)
    (ho : o.op = .call { callee := .builtin .append, args := #[s, x], argTypes := #[ts, ts] }) (hu : P.underlying ts = some (.slice e)) (z : Value) (bytes : Nat) (hinfo : (P.info? e).map (fun i => (i.zero, i.size, i.bytes)) = some (some z, k.s, bytes)) (hz : z.cells.size = k.s)
    (base B m c : Nat) (A : Option Addr) (v : Value) (xs ys : List α) (hs : a.eval s = v) (hx : a.eval x = .slice A m c) (hown : OwnL k e w base v xs) (hq : Lst k w B A m ys) (hm : xs.length + m ≤ 1048576) (hby : bytes ≤ 1048576) (hbase : base ≤ w.heap.size)
    (h : ∀ v' w', OwnL k e w' base v' (xs ++ ys) → w.grownBy w' v.ownBlock → (v'.ownBlock = v.ownBlock ∨ v'.ownBlock = some w.heap.size) → K (a.put d v') w') : wpOp P ops Q i K a w := by
  subst hd
  obtain ⟨v', w', h1, h2, h3, h4⟩ := run_append_all (P := P) w ts o.type e hu z bytes hinfo hz base B m c A v xs ys hown hq hm hby hbase
  refine op_wp i hi hw ?_
  exact Lib.wp_append_run w s x ts ts ho _ _ hs hx _ w' h1 (h v' w' h2 h3 h4)
end
theorem take_snoc {rs : List R} {i : Nat} (h : i < rs.length) : rs.take (i + 1) = rs.take i ++ [rs.getD i R0] := by
  rw [List.take_add_one, List.getElem?_eq_getElem h, List.getD_eq_getElem?_getD, List.getElem?_eq_getElem h]
  rfl
end Go.Proofs.YtlinmcgmkpkpaaaDoor.Mg
