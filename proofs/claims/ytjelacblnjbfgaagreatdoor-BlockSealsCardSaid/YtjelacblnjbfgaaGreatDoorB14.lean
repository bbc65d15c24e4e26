/-
  The document's own Ahead, Before, Pack and Take of records, and the laws' first line, by their contracts.
  The document's own may, Size and Pack of blocks, by their contracts.
-/
import Derived.Test.YtjelacblnjbfgaaGreatDoorB13
import Derived.Test.YtjelacblnjbfgaaGreatDoorB8
import Derived.BigQuiet
set_option linter.unusedVariables false
namespace Go.Proofs.YtjelacblnjbfgaaGreatDoor.Rc
open Go.RowKit Go.Shelf Go.Proofs.YtjelacblnjbfgaaGreatDoor Mem Help Go.Proofs.YtjelacblnjbfgaaGreatDoor.Sum Po Ky Ct Go.Proofs.YtjelacblnjbfgaaGreatDoor.Bit Held
attribute [local irreducible] wpList wpListIn Calls
theorem packed_dead (k v s : Int) : packed true k v s = eights [1, 0, 0, 0] := rfl
theorem packed_alive (k v s : Int) : packed false k v s = eights [0, u64 k, u64 v, u64 s] := rfl
theorem info_w64 : (Tryz.prog.info? 23).map (fun i => (i.zero, i.size, i.bytes)) = some (some (.int .u64 0), 1, 8) := by kernel_rfl
set_option maxRecDepth 100000 in
set_option maxHeartbeats 4000000 in
theorem rpack_true (k v s : Int) (w : World) :
    Calls Tryz.prog 41 #[.agg #[.bool true, .int .i64 k, .int .i64 v, .int .i64 s]] w fun e w' => e = .returned (.agg (arr .u8 (packed true k v s))) ∧ Below w.heap.size w w' := by
  have e1 := u64_eq k
  have e2 := u64_eq v
  have e3 := u64_eq s
  have hw0 : ∀ z ∈ [0, u64 k, u64 v, u64 s], (Lit.int .u64 z).wf = true := numbers_wf false k v s
  go_enter Tryz.func41, Tryz.ntmps41
  go_wp2_with (first
    | (refine wpList_box_blk (w := w) rfl 37 _ rfl #[.bool true, .int .i64 k, .int .i64 v, .int .i64 s] rfl ?_; intro ua qa ga za)
    | (refine wpList_alloc_Row (w := ua) rfl 22 rfl .u8 32 zero_32 ?_; intro ub rr gb zb; have qa := qa.grown gb (by simp); have a0 := qa.cell (i := 0) rfl; have a1 := qa.cell (i := 1) rfl; have a2 := qa.cell (i := 2) rfl; have a3 := qa.cell (i := 3) rfl)
    | (refine Held.wpList_build_row (w := ub) rfl 96 23 4 _ rfl .u64 8 [0, u64 k, u64 v, u64 s] Tryz.underlying96 info_w64 (by simp [Act.eval]) rfl (by omega) (by omega) hw0 ?_; intro uc rc gc zc))
  have bz : Below w.heap.size w uc := (((Below.refl _ w).grown ga (Nat.le_refl _) (by simp)).grown gb ga.size (by simp)).grown gc (Nat.le_trans ga.size gb.size) (by simp)
  have hwa : w.heap.size ≤ ua.heap.size := ga.size
  have qa := qa.grown gc (by simp)
  have rr := rr.grown gc (by simp)
  have i4 : Ints uc .u64 uc.heap.size (some ⟨ub.heap.size, 0, none⟩) 4 [0, u64 k, u64 v, u64 s] := rc.ints (n := 4) (by simp)
  clear ga gb gc za zb zc a0 a1 a2 a3 rc
  refine (eights_any uc.heap.size (some ⟨ub.heap.size, 0, none⟩) 4 4 [0, u64 k, u64 v, u64 s] uc i4 (Nat.le_refl _) (by omega)).mono ?_
  rintro e ud ⟨Ad, nd, cd, rfl, od, bd⟩
  have bz := bz.trans (bd.mono bz.size)
  have qa := qa.after bd
  have rr := rr.below bd rr.lt
  have a0 := qa.cell (i := 0) rfl
  clear i4 bd
  go_wp2_with (refine Held.wpList_build_row (w := ud) rfl 96 23 4 _ rfl .u64 8 [1, 0, 0, 0] Tryz.underlying96 info_w64 (by simp [Act.eval]) rfl (by omega) (by omega) (by decide) ?_; intro ue re ge ze)
  have bz := bz.grown ge bz.size (by simp)
  have rr := rr.grown ge (by simp)
  have i4 : Ints ue .u64 ue.heap.size (some ⟨ud.heap.size, 0, none⟩) 4 [1, 0, 0, 0] := re.ints (n := 4) (by simp)
  clear ge ze re od qa a0
  refine (eights_any ue.heap.size (some ⟨ud.heap.size, 0, none⟩) 4 4 [1, 0, 0, 0] ue i4 (Nat.le_refl _) (by omega)).mono ?_
  rintro e uf ⟨Af, nf, cf, rfl, oL, bf⟩
  have bL := bz.trans (bf.mono bz.size)
  have rr := rr.below bf rr.lt
  have lrr := rr.lt
  clear i4 bf bz
  have HPL := Lib.hid (packed_length true k v s)
  have HPW := Lib.hid (packed_wf true k v s)
  obtain ⟨E, hE⟩ : ∃ E, packed true k v s = E := ⟨_, rfl⟩
  rw [hE] at HPL HPW
  rw [← packed_dead k v s, hE] at oL
  have HEE := Lib.hid hE
  clear hE
  have iL : Ints uf .u8 uf.heap.size Af nf E := oL.ints (by obtain ⟨_, _, e, _⟩ := oL.form; injection e with _ e; exact e.symm)
  have hln : nf = 32 := iL.1.symm.trans HPL.out
  subst hln
  clear oL
  go_wp2_with (refine wpList_alloc_Row (w := uf) rfl 22 rfl .u8 32 zero_32 ?_; intro ux rx gx zx)
  have iL := (iL.keep (w' := ux) (fun q hq => World.cell?_of_block (gx.block q.block hq (by simp))))
  have rr := rr.grown gx (by simp)
  have bL := bL.grown gx bL.size (by simp)
  have hne : ua.heap.size < uf.heap.size := lrr
  have hF : E.length = (List.replicate 32 (0 : Int)).length := by rw [HPL.out]; simp
  clear gx zx
  go_loopw [5] (fun i wr => ∃ j : Nat, j ≤ 32 ∧ i = .int .i64 j ∧ Row wr uf.heap.size 22 .u8 (blend E (List.replicate 32 0) j) ∧ Ints wr .u8 uf.heap.size Af 32 E ∧ Row wr ua.heap.size 22 .u8 (List.replicate 32 0) ∧ Below w.heap.size w wr) (fun i _ => 32 - (intOf i).toNat)
  case atStart => exact ⟨0, by omega, rfl, by rw [blend_zero]; exact rx, iL, rr, bL⟩
  case round =>
    clear rx iL rr bL
    obtain ⟨j, hj, rfl, rx, iL, rr, bL⟩ := hrel
    by_cases hlt : j < 32
    · obtain ⟨b, off, rfl, hb, hc⟩ := iL.at_ hlt
      have hlt' : (j : Int) < 32 := by omega
      have hj0 : (0 : Int) ≤ (j : Int) := by omega
      have HS := Lib.hid (blend_set hF (i := j) (by simpa using hlt))
      have HB := Lib.hid (show j < (blend E (List.replicate 32 0) j).length by rw [blend_length hF]; simpa using hlt)
      have hz := iL.range hlt
      have hbw : w.heap.size ≤ uf.heap.size := by omega
      generalize E.getD j 0 = z at hc HS hz
      go_wp2_with (refine wpList_store_elem (w := wr) rfl 5 _ _ rfl uf.heap.size j rfl 22 .u8 _ z rfl rx HB.out size_u8 hz ?_; intro wq rx gq zq; rw [HS.out] at rx)
      have iL := iL.keep (w' := wq) (fun q hq => World.cell?_of_block (gq.block q.block (Nat.lt_of_lt_of_le hq (Nat.le_of_lt (by have := rx.lt; have := zq.out; omega))) (by intro e; injection e with e; omega)))
      have rr := rr.grown gq (by intro e; injection e with e; omega)
      have bL := bL.grown gq bL.size (fun r e => by cases e; exact hbw)
      clear gq zq HS HB hc
      go_roundw
      case rel => exact ⟨j + 1, by omega, by go_num, rx, iL, rr, bL⟩
      case measure => simp [intOf]; omega
    · have hj32 : j = 32 := by omega
      subst hj32
      rw [show blend E (List.replicate 32 0) 32 = E by have := blend_all hF; rwa [List.length_replicate] at this] at rx
      go_wp2_with (first
        | (refine wpList_load_Row rfl 22 _ rfl uf.heap.size rfl 22 .u8 _ rx 32 5 Tryz.underlying22 info_32 HPL.out ?_)
        | (refine wpList_store_RowTo (w := wr) rfl 22 _ _ rfl ua.heap.size rfl 22 .u8 _ _ rfl rr 32 info_32 HPL.out (by simp) HPW.out ?_; intro wq rq gq zq))
      exact bodyPost_ret (results_Row rfl _ _ ua.heap.size _ _ _ rfl rq 32 5 Tryz.underlying22 info_32 HPL.out) rfl ⟨by rw [← HEE.out], bL.grown gq bL.size (fun r e => by cases e; exact hwa)⟩
set_option maxRecDepth 100000 in
set_option maxHeartbeats 4000000 in
theorem rpack_false (k v s : Int) (w : World) :
    Calls Tryz.prog 41 #[.agg #[.bool false, .int .i64 k, .int .i64 v, .int .i64 s]] w fun e w' => e = .returned (.agg (arr .u8 (packed false k v s))) ∧ Below w.heap.size w w' := by
  have e1 := u64_eq k
  have e2 := u64_eq v
  have e3 := u64_eq s
  have hw0 : ∀ z ∈ [0, u64 k, u64 v, u64 s], (Lit.int .u64 z).wf = true := numbers_wf false k v s
  go_enter Tryz.func41, Tryz.ntmps41
  go_wp2_with (first
    | (refine wpList_box_blk (w := w) rfl 37 _ rfl #[.bool false, .int .i64 k, .int .i64 v, .int .i64 s] rfl ?_; intro ua qa ga za)
    | (refine wpList_alloc_Row (w := ua) rfl 22 rfl .u8 32 zero_32 ?_; intro ub rr gb zb; have qa := qa.grown gb (by simp); have a0 := qa.cell (i := 0) rfl; have a1 := qa.cell (i := 1) rfl; have a2 := qa.cell (i := 2) rfl; have a3 := qa.cell (i := 3) rfl)
    | (refine Held.wpList_build_row (w := ub) rfl 96 23 4 _ rfl .u64 8 [0, u64 k, u64 v, u64 s] Tryz.underlying96 info_w64 (by simp [Act.eval]) rfl (by omega) (by omega) hw0 ?_; intro uc rc gc zc))
  have bz : Below w.heap.size w uc := (((Below.refl _ w).grown ga (Nat.le_refl _) (by simp)).grown gb ga.size (by simp)).grown gc (Nat.le_trans ga.size gb.size) (by simp)
  have hwa : w.heap.size ≤ ua.heap.size := ga.size
  have qa := qa.grown gc (by simp)
  have rr := rr.grown gc (by simp)
  have i4 : Ints uc .u64 uc.heap.size (some ⟨ub.heap.size, 0, none⟩) 4 [0, u64 k, u64 v, u64 s] := rc.ints (n := 4) (by simp)
  clear ga gb gc za zb zc a0 a1 a2 a3 rc
  refine (eights_any uc.heap.size (some ⟨ub.heap.size, 0, none⟩) 4 4 [0, u64 k, u64 v, u64 s] uc i4 (Nat.le_refl _) (by omega)).mono ?_
  rintro e ud ⟨Ad, nd, cd, rfl, od, bd⟩
  have bz := bz.trans (bd.mono bz.size)
  have qa := qa.after bd
  have rr := rr.below bd rr.lt
  have a0 := qa.cell (i := 0) rfl
  clear i4 bd
  have oL := od
  have bL := bz
  have lrr := rr.lt
  clear od bz
  have HPL := Lib.hid (packed_length false k v s)
  have HPW := Lib.hid (packed_wf false k v s)
  obtain ⟨E, hE⟩ : ∃ E, packed false k v s = E := ⟨_, rfl⟩
  rw [hE] at HPL HPW
  rw [← packed_alive k v s, hE] at oL
  have HEE := Lib.hid hE
  clear hE
  have iL : Ints ud .u8 ud.heap.size Ad nd E := oL.ints (by obtain ⟨_, _, e, _⟩ := oL.form; injection e with _ e; exact e.symm)
  have hln : nd = 32 := iL.1.symm.trans HPL.out
  subst hln
  clear oL
  clear qa
  go_wp2_with (refine wpList_alloc_Row (w := ud) rfl 22 rfl .u8 32 zero_32 ?_; intro ux rx gx zx)
  have iL := (iL.keep (w' := ux) (fun q hq => World.cell?_of_block (gx.block q.block hq (by simp))))
  have rr := rr.grown gx (by simp)
  have bL := bL.grown gx bL.size (by simp)
  have hne : ua.heap.size < ud.heap.size := lrr
  have hF : E.length = (List.replicate 32 (0 : Int)).length := by rw [HPL.out]; simp
  clear gx zx
  go_loopw [5] (fun i wr => ∃ j : Nat, j ≤ 32 ∧ i = .int .i64 j ∧ Row wr ud.heap.size 22 .u8 (blend E (List.replicate 32 0) j) ∧ Ints wr .u8 ud.heap.size Ad 32 E ∧ Row wr ua.heap.size 22 .u8 (List.replicate 32 0) ∧ Below w.heap.size w wr) (fun i _ => 32 - (intOf i).toNat)
  case atStart => exact ⟨0, by omega, rfl, by rw [blend_zero]; exact rx, iL, rr, bL⟩
  case round =>
    clear rx iL rr bL
    obtain ⟨j, hj, rfl, rx, iL, rr, bL⟩ := hrel
    by_cases hlt : j < 32
    · obtain ⟨b, off, rfl, hb, hc⟩ := iL.at_ hlt
      have hlt' : (j : Int) < 32 := by omega
      have hj0 : (0 : Int) ≤ (j : Int) := by omega
      have HS := Lib.hid (blend_set hF (i := j) (by simpa using hlt))
      have HB := Lib.hid (show j < (blend E (List.replicate 32 0) j).length by rw [blend_length hF]; simpa using hlt)
      have hz := iL.range hlt
      have hbw : w.heap.size ≤ ud.heap.size := by omega
      generalize E.getD j 0 = z at hc HS hz
      go_wp2_with (refine wpList_store_elem (w := wr) rfl 5 _ _ rfl ud.heap.size j rfl 22 .u8 _ z rfl rx HB.out size_u8 hz ?_; intro wq rx gq zq; rw [HS.out] at rx)
      have iL := iL.keep (w' := wq) (fun q hq => World.cell?_of_block (gq.block q.block (Nat.lt_of_lt_of_le hq (Nat.le_of_lt (by have := rx.lt; have := zq.out; omega))) (by intro e; injection e with e; omega)))
      have rr := rr.grown gq (by intro e; injection e with e; omega)
      have bL := bL.grown gq bL.size (fun r e => by cases e; exact hbw)
      clear gq zq HS HB hc
      go_roundw
      case rel => exact ⟨j + 1, by omega, by go_num, rx, iL, rr, bL⟩
      case measure => simp [intOf]; omega
    · have hj32 : j = 32 := by omega
      subst hj32
      rw [show blend E (List.replicate 32 0) 32 = E by have := blend_all hF; rwa [List.length_replicate] at this] at rx
      go_wp2_with (first
        | (refine wpList_load_Row rfl 22 _ rfl ud.heap.size rfl 22 .u8 _ rx 32 5 Tryz.underlying22 info_32 HPL.out ?_)
        | (refine wpList_store_RowTo (w := wr) rfl 22 _ _ rfl ua.heap.size rfl 22 .u8 _ _ rfl rr 32 info_32 HPL.out (by simp) HPW.out ?_; intro wq rq gq zq))
      exact bodyPost_ret (results_Row rfl _ _ ua.heap.size _ _ _ rfl rq 32 5 Tryz.underlying22 info_32 HPL.out) rfl ⟨by rw [← HEE.out], bL.grown gq bL.size (fun r e => by cases e; exact hwa)⟩
theorem rpack_any (d : Bool) (k v s : Int) (w : World) :
    Calls Tryz.prog 41 #[.agg #[.bool d, .int .i64 k, .int .i64 v, .int .i64 s]] w fun e w' => e = .returned (.agg (arr .u8 (packed d k v s))) ∧ Below w.heap.size w w' := by
  cases d
  · exact rpack_false k v s w
  · exact rpack_true k v s w
theorem ints_word {w : World} {B b off n : Nat} {zs : List Int} (hi : Ints w .u8 B (some ⟨b, off, none⟩) n zs) {x : Nat} (hx : 8 * x + 8 ≤ n) : Ints w .u8 B (some ⟨b, off + 8 * x, none⟩) 8 ((zs.drop (8 * x)).take 8) := by
  refine ⟨by rw [List.length_take, List.length_drop, hi.1]; omega, fun z hz => hi.2.1 z (List.mem_of_mem_drop (List.mem_of_mem_take hz)), fun _ => ?_⟩
  obtain ⟨b', off', e, hb, hcc⟩ := hi.2.2 (by omega)
  injection e with e
  injection e with e1 e2
  subst e1
  subst e2
  refine ⟨b, off + 8 * x, rfl, hb, fun i hi8 => ?_⟩
  rw [Nat.add_assoc, hcc (8 * x + i) (by omega)]
  simp [List.getD_eq_getElem?_getD, hi8]
theorem rnum_b (B : Nat) (A : Option Addr) (c : Nat) (zs : List Int) (x : Int) (w : World) (h : Ints w .u8 B A 8 zs) (hx : val zs = x) :
    Calls Tryz.prog 73 #[.slice A 8 c] w fun e w' => e = .returned (.int .u64 x) ∧ Below w.heap.size w w' := by
  rw [← hx]
  exact (rnumber_any B A c zs w h).mono fun _ _ ⟨h, e⟩ => ⟨h, e ▸ Below.refl _ _⟩
theorem rtake_off (A : Option Addr) (m c : Nat) (w : World) (hm : m ≤ 1099511627776) (h : m ≠ 32) :
    Calls Tryz.prog 48 #[.slice A m c] w fun e w' => e = .returned (.tuple #[.agg noneC, .int .i64 (if m < 32 then 3 else 4)]) ∧ Below w.heap.size w w' := by
  by_cases hlt : m < 32
  · have hlt' : (m : Int) < 32 := by omega
    rw [if_pos hlt]
    go_enter Tryz.func48, Tryz.ntmps48
    go_wp2_with (first
      | (refine wpList_alloc_blk (w := w) rfl 37 rfl _ zero_rec ?_; intro w1 q1 g1 z1)
      | (refine wpList_build_blk rfl 37 _ rfl noneC (by kernel_rfl) ?_)
      | (refine wpList_store_blk (w := w1) rfl 37 _ _ rfl w.heap.size 4 rfl 37 _ noneC rfl q1 info_rec rfl rfl (by kernel_rfl) ?_; intro w2 q2 g2 z2))
    exact bodyPost_ret (results_blk_tmp rfl _ _ w.heap.size 4 _ _ _ rfl rfl q2 _ Tryz.underlying37 rfl info_rec rfl) rfl ⟨rfl, ((Below.refl _ w).grown g1 (Nat.le_refl _) (by simp)).grown g2 g1.size (fun r e => by cases e; exact Nat.le_refl _)⟩
  · have hlt' : ¬ (m : Int) < 32 := by omega
    have hgt : (32 : Int) < (m : Int) := by omega
    rw [if_neg hlt]
    go_enter Tryz.func48, Tryz.ntmps48
    go_wp2_with (first
      | (refine wpList_alloc_blk (w := w) rfl 37 rfl _ zero_rec ?_; intro w1 q1 g1 z1)
      | (refine wpList_build_blk rfl 37 _ rfl noneC (by kernel_rfl) ?_)
      | (refine wpList_store_blk (w := w1) rfl 37 _ _ rfl w.heap.size 4 rfl 37 _ noneC rfl q1 info_rec rfl rfl (by kernel_rfl) ?_; intro w2 q2 g2 z2))
    exact bodyPost_ret (results_blk_tmp rfl _ _ w.heap.size 4 _ _ _ rfl rfl q2 _ Tryz.underlying37 rfl info_rec rfl) rfl ⟨rfl, ((Below.refl _ w).grown g1 (Nat.le_refl _) (by simp)).grown g2 g1.size (fun r e => by cases e; exact Nat.le_refl _)⟩
set_option maxRecDepth 100000 in
set_option maxHeartbeats 4000000 in
theorem rtake_at (B : Nat) (b off c : Nat) (zs : List Int) (w : World) (h : Ints w .u8 B (some ⟨b, off, none⟩) 32 zs) (hb : b < B) (hB : B ≤ w.heap.size) (hc : 32 ≤ c) :
    Calls Tryz.prog 48 #[.slice (some ⟨b, off, none⟩) 32 c] w fun e w' => e = .returned (.tuple #[.agg (takenC zs), .int .i64 (takenE zs)]) ∧ Below w.heap.size w w' := by
  have i0 : Ints w .u8 B (some ⟨b, off, none⟩) 8 (zs.take 8) := h.front (by omega)
  have i1 : Ints w .u8 B (some ⟨b, off + 8, none⟩) 8 ((zs.drop 8).take 8) := ints_word h (x := 1) (by omega)
  have i2 : Ints w .u8 B (some ⟨b, off + 16, none⟩) 8 ((zs.drop 16).take 8) := ints_word h (x := 2) (by omega)
  obtain ⟨A3, hA3, _, i3⟩ := run_back (P := Tryz.prog) Tryz.underlying27 size_u8 (Flat.head b off c) hc (l := 24) (by omega) h
  have hA3 : ∀ w, (Instr.sliceAt 27 (.slice (some ⟨b, off, none⟩) 32 c) (some (.int .i64 24)) none none).run Tryz.prog w = .ok (.slice A3 8 (c - 24)) w := hA3
  have i3 : Ints w .u8 B A3 8 (zs.drop 24) := i3
  have HC := Lib.hid (show takenC zs = if may (fld zs 0) (fld zs 1) (fld zs 2) (fld zs 3) = true then recC (fld zs 0) (fld zs 1) (fld zs 2) (fld zs 3) else noneC by
    unfold takenC mayB
    rw [h.1]
    simp)
  have HE := Lib.hid (show takenE zs = if may (fld zs 0) (fld zs 1) (fld zs 2) (fld zs 3) = true then 0 else 4 by
    unfold takenE mayB
    rw [h.1]
    simp)
  have HN0 := Lib.hid (show val (zs.take 8) = fld zs 0 by unfold fld; rw [Nat.mul_zero, List.drop_zero])
  have HN1 := Lib.hid (show val ((zs.drop 8).take 8) = fld zs 1 from rfl)
  have HN2 := Lib.hid (show val ((zs.drop 16).take 8) = fld zs 2 from rfl)
  have HN3 := Lib.hid (show val (zs.drop 24) = fld zs 3 by unfold fld; rw [List.take_of_length_le (by rw [List.length_drop, h.1]; omega)])
  have hw0 := wf_u64 (fld_wf (bs_of h.2.1) 0)
  generalize fld zs 0 = n0 at *
  generalize fld zs 1 = n1 at *
  generalize fld zs 2 = n2 at *
  generalize fld zs 3 = n3 at *
  clear h
  go_enter Tryz.func48, Tryz.ntmps48
  go_wp2_with (refine wpList_alloc_blk (w := w) rfl 37 rfl _ zero_rec ?_; intro u1 q1 g1 z1)
  have bz : Below w.heap.size w u1 := (Below.refl _ w).grown g1 (Nat.le_refl _) (by simp)
  clear g1 z1
  refine wp_region_held (S := fun W => Below u1.heap.size u1 W) (by kernel_rfl) ?_
  change wpAnyH _ _ _ _ _ _ _ _ u1.drew
  have c0_0 := (Below.refl u1.heap.size u1).drew
  refine Held.tk (v := .slice (some ⟨b, off, none⟩) 32 c) 0 (some 16) rfl (Held.y_move rfl rfl) c0_0 ?_
  simp only [Act.put, Z1, Z2, Z3]
  refine Held.tk (v := .slice (some ⟨b, off, none⟩) 8 c) 1 (some 17) rfl (Held.y_slice rfl (fun W => run_front (P := Tryz.prog) Tryz.underlying27 size_u8 (Flat.head b off c) (h := 8) (by omega) W)) c0_0 ?_
  simp only [Act.put, Z1, Z2, Z3]
  refine Held.tk (v := .slice (some ⟨b, off, none⟩) 32 c) 3 (some 19) rfl (Held.y_move rfl rfl) c0_0 ?_
  simp only [Act.put, Z1, Z2, Z3]
  refine Held.tk (v := .slice (some ⟨b, off + 8, none⟩) 8 (c - 8)) 4 (some 20) rfl (Held.y_slice rfl (fun W => run_midO (P := Tryz.prog) Tryz.underlying27 size_u8 b off 32 (cap := c) (l := 8) (h := 16) (by omega) (by omega) (by omega) W)) c0_0 ?_
  simp only [Act.put, Z1, Z2, Z3]
  refine Held.one 2 (by kernel_rfl) ?_
  refine Held.op_call 2 (some 18) 73 #[.slice (some ⟨b, off, none⟩) 8 c] rfl rfl rfl rfl (enters_of Tryz.func73 (by kernel_rfl) rfl) (by simp [Act.eval])
    (rnum_b B _ _ _ n0 _ (i0.below ((bz.trans (c0_0.mono bz.size)).mono hB)) HN0.out) ?_
  rintro e w1 ⟨rfl, b1⟩
  have c0_1 := c0_0.trans (b1.mono c0_0.size)
  refine ⟨_, rfl, c0_1, ?_⟩
  simp only [Act.put, Z1, Z2, Z3]
  refine Held.one 5 (by kernel_rfl) ?_
  refine Held.op_call 5 (some 21) 73 #[.slice (some ⟨b, off + 8, none⟩) 8 (c - 8)] rfl rfl rfl rfl (enters_of Tryz.func73 (by kernel_rfl) rfl) (by simp [Act.eval])
    (rnum_b B _ _ _ n1 _ (i1.below ((bz.trans (c0_1.mono bz.size)).mono hB)) HN1.out) ?_
  rintro e w2 ⟨rfl, b2⟩
  have c0_2 := c0_1.trans (b2.mono c0_1.size)
  refine ⟨_, rfl, c0_2, ?_⟩
  simp only [Act.put, Z1, Z2, Z3]
  refine Held.tk (v := .int .u64 n0) 6 (some 4) rfl (Held.y_assign rfl rfl) c0_2 ?_
  simp only [Act.put, Z1, Z2, Z3]
  refine Held.tk (v := .int .u64 n1) 7 (some 5) rfl (Held.y_assign rfl rfl) c0_2 ?_
  simp only [Act.put, Z1, Z2, Z3]
  refine wpAnyH_done (by kernel_rfl) ?_ _
  have bz2 := bz.trans (c0_2.mono bz.size)
  have qz := q1.after c0_2
  generalize w2 = v1 at bz2 qz ⊢
  go_wp2_with fail
  refine wp_region_held (S := fun W => Below v1.heap.size v1 W) (by kernel_rfl) ?_
  change wpAnyH _ _ _ _ _ _ _ _ v1.drew
  have c0_0 := (Below.refl v1.heap.size v1).drew
  refine Held.tk (v := .slice (some ⟨b, off, none⟩) 32 c) 0 (some 22) rfl (Held.y_move rfl rfl) c0_0 ?_
  simp only [Act.put, Z1, Z2, Z3]
  refine Held.tk (v := .slice (some ⟨b, off + 16, none⟩) 8 (c - 16)) 1 (some 23) rfl (Held.y_slice rfl (fun W => run_midO (P := Tryz.prog) Tryz.underlying27 size_u8 b off 32 (cap := c) (l := 16) (h := 24) (by omega) (by omega) (by omega) W)) c0_0 ?_
  simp only [Act.put, Z1, Z2, Z3]
  refine Held.tk (v := .slice (some ⟨b, off, none⟩) 32 c) 3 (some 25) rfl (Held.y_move rfl rfl) c0_0 ?_
  simp only [Act.put, Z1, Z2, Z3]
  refine Held.tk (v := .slice A3 8 (c - 24)) 4 (some 26) rfl (Held.y_slice rfl (fun W => hA3 W)) c0_0 ?_
  simp only [Act.put, Z1, Z2, Z3]
  refine Held.one 2 (by kernel_rfl) ?_
  refine Held.op_call 2 (some 24) 73 #[.slice (some ⟨b, off + 16, none⟩) 8 (c - 16)] rfl rfl rfl rfl (enters_of Tryz.func73 (by kernel_rfl) rfl) (by simp [Act.eval])
    (rnum_b B _ _ _ n2 _ (i2.below ((bz2.trans (c0_0.mono bz2.size)).mono hB)) HN2.out) ?_
  rintro e w1 ⟨rfl, b1⟩
  have c0_1 := c0_0.trans (b1.mono c0_0.size)
  refine ⟨_, rfl, c0_1, ?_⟩
  simp only [Act.put, Z1, Z2, Z3]
  refine Held.one 5 (by kernel_rfl) ?_
  refine Held.op_call 5 (some 27) 73 #[.slice A3 8 (c - 24)] rfl rfl rfl rfl (enters_of Tryz.func73 (by kernel_rfl) rfl) (by simp [Act.eval])
    (rnum_b B _ _ _ n3 _ (i3.below ((bz2.trans (c0_1.mono bz2.size)).mono hB)) HN3.out) ?_
  rintro e w2 ⟨rfl, b2⟩
  have c0_2 := c0_1.trans (b2.mono c0_1.size)
  refine ⟨_, rfl, c0_2, ?_⟩
  simp only [Act.put, Z1, Z2, Z3]
  refine Held.tk (v := .int .u64 n2) 6 (some 6) rfl (Held.y_assign rfl rfl) c0_2 ?_
  simp only [Act.put, Z1, Z2, Z3]
  refine Held.tk (v := .int .u64 n3) 7 (some 7) rfl (Held.y_assign rfl rfl) c0_2 ?_
  simp only [Act.put, Z1, Z2, Z3]
  refine wpAnyH_done (by kernel_rfl) ?_ _
  have bz3 := bz2.trans (c0_2.mono bz2.size)
  have qy := qz.after c0_2
  generalize w2 = v2 at bz3 qy ⊢
  clear i0 i1 i2 i3 hA3 HN0 HN1 HN2 HN3 bz bz2 q1 qz
  rcases (show n0 = 0 ∨ n0 = 1 ∨ 1 < n0 by omega) with rfl | rfl | hgt
  · have hmay : may 0 n1 n2 n3 = true := rfl
    rw [hmay] at HC HE
    clear hw0
    · go_wp2_with (first
        | (refine wpList_build_blk rfl 37 _ rfl (recC 0 n1 n2 n3) (by kernel_rfl) ?_)
        | (refine wpList_store_blk (w := v2) rfl 37 _ _ rfl w.heap.size 4 rfl 37 _ (recC 0 n1 n2 n3) rfl qy info_rec rfl rfl (by kernel_rfl) ?_; intro w3 q3 g3 z3))
      exact bodyPost_ret (results_blk_tmp rfl _ _ w.heap.size 4 _ _ _ rfl rfl q3 _ Tryz.underlying37 rfl info_rec rfl) rfl ⟨by rw [HC.out, HE.out]; rfl, bz3.grown g3 bz3.size (fun r e => by cases e; exact Nat.le_refl _)⟩
  · by_cases h1 : n1 = 0
    · subst h1
      by_cases h2 : n2 = 0
      · subst h2
        by_cases h3 : n3 = 0
        · subst h3
          have hmay : may 1 0 0 0 = true := rfl
          rw [hmay] at HC HE
          clear hw0
          go_wp2_with (first
            | (refine wpList_build_blk rfl 37 _ rfl (recC 1 0 0 0) (by kernel_rfl) ?_)
            | (refine wpList_store_blk (w := v2) rfl 37 _ _ rfl w.heap.size 4 rfl 37 _ (recC 1 0 0 0) rfl qy info_rec rfl rfl (by kernel_rfl) ?_; intro w3 q3 g3 z3))
          exact bodyPost_ret (results_blk_tmp rfl _ _ w.heap.size 4 _ _ _ rfl rfl q3 _ Tryz.underlying37 rfl info_rec rfl) rfl ⟨by rw [HC.out, HE.out]; rfl, bz3.grown g3 bz3.size (fun r e => by cases e; exact Nat.le_refl _)⟩
        · have hmay : may 1 0 0 n3 = false := by simp [may, h3]
          rw [hmay] at HC HE
          have h3' : (n3 != 0) = true := by simpa using h3
          clear hw0
          go_wp2_with (first
            | (refine wpList_build_blk rfl 37 _ rfl noneC (by kernel_rfl) ?_)
            | (refine wpList_store_blk (w := v2) rfl 37 _ _ rfl w.heap.size 4 rfl 37 _ noneC rfl qy info_rec rfl rfl (by kernel_rfl) ?_; intro w3 q3 g3 z3))
          exact bodyPost_ret (results_blk_tmp rfl _ _ w.heap.size 4 _ _ _ rfl rfl q3 _ Tryz.underlying37 rfl info_rec rfl) rfl ⟨by rw [HC.out, HE.out]; rfl, bz3.grown g3 bz3.size (fun r e => by cases e; exact Nat.le_refl _)⟩
      · have hmay : may 1 0 n2 n3 = false := by simp [may, h2]
        rw [hmay] at HC HE
        have h2' : (n2 != 0) = true := by simpa using h2
        clear hw0
        go_wp2_with (first
          | (refine wpList_build_blk rfl 37 _ rfl noneC (by kernel_rfl) ?_)
          | (refine wpList_store_blk (w := v2) rfl 37 _ _ rfl w.heap.size 4 rfl 37 _ noneC rfl qy info_rec rfl rfl (by kernel_rfl) ?_; intro w3 q3 g3 z3))
        exact bodyPost_ret (results_blk_tmp rfl _ _ w.heap.size 4 _ _ _ rfl rfl q3 _ Tryz.underlying37 rfl info_rec rfl) rfl ⟨by rw [HC.out, HE.out]; rfl, bz3.grown g3 bz3.size (fun r e => by cases e; exact Nat.le_refl _)⟩
    · have hmay : may 1 n1 n2 n3 = false := by simp [may, h1]
      rw [hmay] at HC HE
      have h1' : (n1 != 0) = true := by simpa using h1
      clear hw0
      go_wp2_with (first
        | (refine wpList_build_blk rfl 37 _ rfl noneC (by kernel_rfl) ?_)
        | (refine wpList_store_blk (w := v2) rfl 37 _ _ rfl w.heap.size 4 rfl 37 _ noneC rfl qy info_rec rfl rfl (by kernel_rfl) ?_; intro w3 q3 g3 z3))
      exact bodyPost_ret (results_blk_tmp rfl _ _ w.heap.size 4 _ _ _ rfl rfl q3 _ Tryz.underlying37 rfl info_rec rfl) rfl ⟨by rw [HC.out, HE.out]; rfl, bz3.grown g3 bz3.size (fun r e => by cases e; exact Nat.le_refl _)⟩
  · have hmay : may n0 n1 n2 n3 = false := by
      have h0 : n0 ≠ 0 := by omega
      have h1 : n0 ≠ 1 := by omega
      simp [may, h0, h1]
    rw [hmay] at HC HE
    clear hw0
    · go_wp2_with (first
        | (refine wpList_build_blk rfl 37 _ rfl noneC (by kernel_rfl) ?_)
        | (refine wpList_store_blk (w := v2) rfl 37 _ _ rfl w.heap.size 4 rfl 37 _ noneC rfl qy info_rec rfl rfl (by kernel_rfl) ?_; intro w3 q3 g3 z3))
      exact bodyPost_ret (results_blk_tmp rfl _ _ w.heap.size 4 _ _ _ rfl rfl q3 _ Tryz.underlying37 rfl info_rec rfl) rfl ⟨by rw [HC.out, HE.out]; rfl, bz3.grown g3 bz3.size (fun r e => by cases e; exact Nat.le_refl _)⟩
theorem rtake_any (B : Nat) (A : Option Addr) (m c : Nat) (zs : List Int) (w : World) (h : Ints w .u8 B A m zs) (hB : B ≤ w.heap.size) (hc : m ≤ c) (hm' : m ≤ 1099511627776) :
    Calls Tryz.prog 48 #[.slice A m c] w fun e w' => e = .returned (.tuple #[.agg (takenC zs), .int .i64 (takenE zs)]) ∧ Below w.heap.size w w' := by
  by_cases hm : m = 32
  · subst hm
    obtain ⟨b, off, rfl, hb, _⟩ := h.2.2 (by omega)
    exact rtake_at B b off c zs w h hb hB hc
  · have e1 : takenC zs = noneC := by
      unfold takenC
      rw [if_neg (by rw [h.1]; omega)]
    have e2 : takenE zs = if m < 32 then 3 else 4 := by
      unfold takenE
      rw [h.1]
      split
      · rfl
      · rw [if_neg (by omega)]
    rw [e1, e2]
    exact rtake_off A m c w hm' hm
end Go.Proofs.YtjelacblnjbfgaaGreatDoor.Rc
namespace Go.Proofs.YtjelacblnjbfgaaGreatDoor.Rs
open Go.RowKit Go.Shelf Go.Proofs.YtjelacblnjbfgaaGreatDoor Mem Held Rc Po
attribute [local irreducible] wpList wpListIn Calls
def pad (rs : List R) (size : Nat) : List R := rs ++ List.replicate (size - rs.length) RD
theorem pad_length {rs : List R} {size : Nat} (h : rs.length ≤ size) : (pad rs size).length = size := by simp [pad]; omega
theorem pad_lt {rs : List R} {size i : Nat} (h : i < rs.length) : (pad rs size).getD i R0 = rs.getD i R0 := by
  simp only [pad, List.getD_eq_getElem?_getD]
  rw [List.getElem?_append_left h]
theorem pad_ge {rs : List R} {size i : Nat} (h : ¬ i < rs.length) (hi : i < size) : (pad rs size).getD i R0 = RD := by
  simp only [pad, List.getD_eq_getElem?_getD]
  rw [List.getElem?_append_right (by omega), List.getElem?_replicate, if_pos (by omega)]
  rfl
def packR (r : R) : List Int := packed r.d r.k r.v r.s
theorem packR_length (r : R) : (packR r).length = 32 := packed_length _ _ _ _
def packs (rs : List R) : List Int := rs.flatMap packR
theorem packs_length : ∀ rs : List R, (packs rs).length = 32 * rs.length
  | [] => rfl
  | r :: rs => by
    have := packs_length rs
    simp only [packs, List.flatMap_cons, List.length_append, packR_length, List.length_cons] at this ⊢
    omega
theorem packs_snoc (rs : List R) {k : Nat} (h : k < rs.length) : packs (rs.take (k + 1)) = packs (rs.take k) ++ packR (rs.getD k R0) := by
  rw [packs, packs, List.take_add_one, List.getElem?_eq_getElem h, List.flatMap_append, List.getD_eq_getElem?_getD, List.getElem?_eq_getElem h]
  simp
def mayS (size : Int) : Bool := decide (1 ≤ size) && decide (size ≤ 8)
theorem may_any (size : Int) (w : World) : Calls Tryz.prog 27 #[.int .i64 size] w fun e w' => e = .returned (.bool (mayS size)) ∧ w = w' := by
  by_cases h1 : 1 ≤ size
  · by_cases h8 : size ≤ 8
    · have hm : mayS size = true := by simp [mayS, h1, h8]
      have HM := Lib.hid hm
      clear hm
      go_enter Tryz.func27, Tryz.ntmps27
      go_wp2_with fail
      go_ret
      exact ⟨Mem.ret_bool HM.out.symm, rfl⟩
    · have hm : mayS size = false := by simp [mayS, h8]
      have HM := Lib.hid hm
      clear hm
      go_enter Tryz.func27, Tryz.ntmps27
      go_wp2_with fail
      go_ret
      exact ⟨Mem.ret_bool HM.out.symm, rfl⟩
  · have hm : mayS size = false := by simp [mayS, h1]
    have HM := Lib.hid hm
    clear hm
    go_enter Tryz.func27, Tryz.ntmps27
    go_wp2_with fail
    go_ret
    exact ⟨Mem.ret_bool HM.out.symm, rfl⟩
theorem rdead_any (w : World) : Calls Tryz.prog 40 #[] w fun e w' => e = .returned (.agg #[.bool RD.d, .int .i64 RD.k, .int .i64 RD.v, .int .i64 RD.s]) ∧ Below w.heap.size w w' := by
  go_enter Tryz.func40, Tryz.ntmps40
  go_wp2_with (first
    | (refine wpList_alloc_blk (w := w) rfl 37 rfl _ zero_rec ?_; intro w1 q1 g1 z1)
    | (refine wpList_build_blk rfl 37 _ rfl #[.bool true, .int .i64 0, .int .i64 0, .int .i64 0] (by kernel_rfl) ?_)
    | (refine wpList_store_blk (w := w1) rfl 37 _ _ rfl w.heap.size 4 rfl 37 _ #[.bool true, .int .i64 0, .int .i64 0, .int .i64 0] rfl q1 info_rec rfl rfl (by kernel_rfl) ?_; intro w2 q2 g2 z2))
  exact bodyPost_ret (results_blk rfl _ _ w.heap.size 4 _ _ rfl q2 _ Tryz.underlying37 rfl info_rec rfl) rfl ⟨rfl, ((Below.refl _ w).grown g1 (Nat.le_refl _) (by simp)).grown g2 g1.size (fun r e => by cases e; exact Nat.le_refl _)⟩
theorem rpacks_bad (A : Option Addr) (n c : Nat) (size : Int) (w : World) (hs : mayS size = false) :
    Calls Tryz.prog 19 #[.slice A n c, .int .i64 size] w fun e w' => e = .returned (.tuple #[.slice none 0 0, .int .i64 1]) ∧ w = w' := by
  go_enter Tryz.func19, Tryz.ntmps19
  go_wp2_with fail
  refine (may_any size w).mono ?_
  rintro e w1 ⟨rfl, rfl⟩
  rw [hs]
  go_wp2_with fail
  exact bodyPost_ret (results_tmp2 rfl _ _ _) rfl ⟨rfl, rfl⟩
theorem rpacks_long (A : Option Addr) (n c : Nat) (size : Int) (w : World) (hs : mayS size = true) (hn : size < (n : Int)) :
    Calls Tryz.prog 19 #[.slice A n c, .int .i64 size] w fun e w' => e = .returned (.tuple #[.slice none 0 0, .int .i64 5]) ∧ w = w' := by
  go_enter Tryz.func19, Tryz.ntmps19
  go_wp2_with fail
  refine (may_any size w).mono ?_
  rintro e w1 ⟨rfl, rfl⟩
  rw [hs]
  go_wp2_with fail
  exact bodyPost_ret (results_tmp2 rfl _ _ _) rfl ⟨rfl, rfl⟩
set_option maxRecDepth 100000 in
set_option maxHeartbeats 4000000 in
theorem rpacks_ok (B : Nat) (A : Option Addr) (n c : Nat) (rs : List R) (size : Nat) (w : World) (h : Recs w B A n rs) (hB : B ≤ w.heap.size) (h1 : 1 ≤ size) (h8 : size ≤ 8) (hn : n ≤ size) :
    Calls Tryz.prog 19 #[.slice A n c, .int .i64 (size : Int)] w fun e w' => ∃ A' c', e = .returned (.tuple #[.slice A' (32 * size) c', .int .i64 0]) ∧ Mem.Own w' w.heap.size 5 .u8 (.slice A' (32 * size) c') (packs (pad rs size)) ∧ Below w.heap.size w w' := by
  have hs : mayS (size : Int) = true := by simp [mayS]; omega
  have hni : ¬ (size : Int) < (n : Int) := by omega
  have hnd : decide (size < n) = false := by simp; omega
  have HL := Lib.hid h.1
  have HP := Lib.hid (pad_length (rs := rs) (size := size) (by rw [h.1]; exact hn))
  go_enter Tryz.func19, Tryz.ntmps19
  go_wp2_with fail
  refine (may_any (size : Int) w).mono ?_
  rintro e w1 ⟨rfl, rfl⟩
  rw [hs]
  go_wp2_with fail
  go_loopw [6, 7] (fun u i wr => ∃ (k n1 : Nat) (A1 : Option Addr) (c1 : Nat), k ≤ size ∧ n1 = 32 * k ∧ u = .slice A1 n1 c1 ∧ i = .int .i64 k ∧ Mem.Own wr w.heap.size 5 .u8 (.slice A1 n1 c1) (packs ((pad rs size).take k)) ∧ Below w.heap.size w wr) (fun _ i _ => size - (intOf i).toNat)
  case atStart => exact ⟨0, 0, none, 0, by omega, rfl, rfl, rfl, by rw [List.take_zero]; exact Mem.Own.nil _ _ _ _, Below.refl _ _⟩
  case round =>
    obtain ⟨k, n1, A1, c1, hk, hn1, rfl, rfl, ok, bk⟩ := hrel
    have HN1 := Lib.hid hn1
    clear hn1
    by_cases hlt : k < size
    · have hlt' : (k : Int) < (size : Int) := by omega
      have hk0 : (0 : Int) ≤ (k : Int) := by omega
      have HS := Lib.hid (packs_snoc (pad rs size) (k := k) (by rw [HP.out]; exact hlt))
      have HLN := Lib.hid (show (packs ((pad rs size).take k)).length = 32 * k by rw [packs_length, List.length_take, HP.out]; omega)
      have HLN2 := Lib.hid (show (packs ((pad rs size).take (k + 1))).length = 32 * (k + 1) by rw [packs_length, List.length_take, HP.out]; omega)
      go_wp2_with fail
      refine (rdead_any wr).mono ?_
      rintro e w1 ⟨rfl, b1⟩
      have ok := ok.below b1
      have bk := bk.trans (b1.mono bk.size)
      clear b1
      by_cases hkn : k < n
      · rw [pad_lt (by rw [HL.out]; exact hkn)] at HS
        obtain ⟨b, off, rfl, hb, hx⟩ := (h.below (bk.mono hB)).at_ hkn
        have hkn' : (k : Int) < (n : Int) := by omega
        generalize rs.getD k R0 = x at hx HS
        have hbw : b < w1.heap.size := Nat.lt_of_lt_of_le hb (Nat.le_trans hB bk.size)
        go_wp2_with (first
          | (refine wpList_alloc_blk (w := w1) rfl 37 rfl _ zero_rec ?_; intro w2 q2 g2 z2)
          | (refine wpList_store_blk (w := w2) rfl 37 _ _ rfl w1.heap.size 4 rfl 37 _ _ rfl q2 info_rec rfl rfl (by kernel_rfl) ?_; intro w3 q3 g3 z3; have x3 : w3.rangeAt b (off + k * 4) x.cells := range_below (B := w1.heap.size) hx (((Below.refl _ w1).grown g2 (Nat.le_refl _) (by simp)).grown g3 g2.size (fun r e => by cases e; exact Nat.le_refl _)) hbw)
          | (refine wpList_run (w := w3) rfl (v := .pointer (some ⟨b, off + k * 4, none⟩)) (Held.y_addr (S := fun _ => True) rfl rfl rfl (run_addr_of (P := Tryz.prog) 26 37 b off n c k 4 .i64 Tryz.underlying26 (by kernel_rfl) hkn) _ trivial) ?_)
          | (refine wpList_run (w := w3) rfl (v := .agg #[.bool x.d, .int .i64 x.k, .int .i64 x.v, .int .i64 x.s]) (y_load_range (S := fun W => W = w3) (n := 4) (cs := x.cells) rfl rfl Tryz.underlying37 rfl (by kernel_rfl) rfl (fun W hW => by rw [hW]; exact x3) _ rfl) ?_)
          | (refine wpList_store_blk (w := w3) rfl 37 _ _ rfl w1.heap.size 4 rfl 37 _ #[.bool x.d, .int .i64 x.k, .int .i64 x.v, .int .i64 x.s] rfl q3 info_rec rfl rfl (by kernel_rfl) ?_; intro w4 q4 g4 z4; have o4 := ((ok.kept g2 (by cases (Value.slice A1 n1 c1).ownBlock <;> simp)).kept g3 (by cases hq : (Value.slice A1 n1 c1).ownBlock with | none => exact .inl rfl | some b => exact .inr (fun e => by injection e with e; have := (ok.2.lt b hq).2; omega))).kept g4 (by cases hq : (Value.slice A1 n1 c1).ownBlock with | none => exact .inl rfl | some b => exact .inr (fun e => by injection e with e; have := (ok.2.lt b hq).2; omega)); have bw4 := ((bk.grown g2 bk.size (by simp)).grown g3 (Nat.le_trans bk.size g2.size) (fun r e => by cases e; exact bk.size)).grown g4 (Nat.le_trans (Nat.le_trans bk.size g2.size) g3.size) (fun r e => by cases e; exact bk.size); clear g2 g3 g4 z2 z3 z4 q2 q3 x3)
          | (refine wpList_load_blk (w := w4) rfl 37 _ rfl w1.heap.size 4 rfl 37 _ q4 _ Tryz.underlying37 rfl (by kernel_rfl) rfl ?_))
        refine (rpack_any x.d x.k x.v x.s w4).mono ?_
        rintro e w5 ⟨rfl, b5⟩
        have o5 := o4.below b5
        have bw5 := bw4.trans (b5.mono bw4.size)
        clear b5 q4 o4
        go_wp2_with (first
          | (refine wpList_alloc_Row (w := w5) rfl 22 rfl .u8 32 zero_32 ?_; intro w6 r6 g6 z6)
          | (refine wpList_store_RowTo (w := w6) rfl 22 _ _ rfl w5.heap.size rfl 22 .u8 _ (packed x.d x.k x.v x.s) rfl r6 32 info_32 (packed_length _ _ _ _) (by simp) (packed_wf _ _ _ _) ?_; intro w7 r7 g7 z7; have o7 := (o5.kept g6 (by cases (Value.slice A1 n1 c1).ownBlock <;> simp)).kept g7 (by cases hq : (Value.slice A1 n1 c1).ownBlock with | none => exact .inl rfl | some b => exact .inr (fun e => by injection e with e; have := (o5.2.lt b hq).2; omega)); have bw7 := (bw5.grown g6 bw5.size (by simp)).grown g7 (Nat.le_trans bw5.size g6.size) (fun r e => by cases e; exact bw5.size); have i7 := r7.ints (n := 32) (by rw [packed_length]; omega); rw [List.take_of_length_le (by rw [packed_length]; omega)] at i7)
          | (refine wpList_run (w := w7) rfl (v := .slice (some ⟨w5.heap.size, 0, none⟩) 32 32) (Held.y_slice (S := fun _ => True) rfl (fun W => run_slice_arr_all (P := Tryz.prog) 22 5 32 w5.heap.size W Tryz.underlying22 (by kernel_rfl) (by omega)) _ trivial) ?_)
          | (at_builtin; refine wpList_append_ints w7 rfl _ _ 27 rfl w.heap.size 5 .u8 1 Tryz.underlying27 Help.info_u8 (.slice A1 n1 c1) (packs ((pad rs size).take k)) rfl o7 w7.heap.size (some ⟨w5.heap.size, 0, none⟩) 32 32 (packed x.d x.k x.v x.s) rfl i7 (by rw [HLN.out]; omega) (by omega) bw7.size ?_; intro v8 w8 o8 g8 t8; rw [show packs ((pad rs size).take k) ++ packed x.d x.k x.v x.s = packs ((pad rs size).take (k + 1)) from HS.out.symm] at o8; obtain ⟨A8, c8, rfl, _⟩ := o8.form; rw [HLN2.out] at o8 ⊢; have b8 := bw7.grown g8 bw7.size (fun r e => (o7.2.lt r e).1); clear g8 t8 g6 g7 z6 z7 r6 r7 i7 o7 o5))
        go_roundw
        case rel => exact ⟨k + 1, 32 * (k + 1), A8, c8, by omega, rfl, rfl, by go_num, o8, b8⟩
        case measure => simp [intOf]; omega
      · rw [pad_ge (by rw [HL.out]; exact hkn) hlt] at HS
        have hkn' : ¬ (k : Int) < (n : Int) := by omega
        go_wp2_with (first
          | (refine wpList_alloc_blk (w := w1) rfl 37 rfl _ zero_rec ?_; intro w2 q2 g2 z2)
          | (refine wpList_store_blk (w := w2) rfl 37 _ _ rfl w1.heap.size 4 rfl 37 _ #[.bool RD.d, .int .i64 RD.k, .int .i64 RD.v, .int .i64 RD.s] rfl q2 info_rec rfl rfl (by kernel_rfl) ?_; intro w4 q4 g3 z3; have o4 := (ok.kept g2 (by cases (Value.slice A1 n1 c1).ownBlock <;> simp)).kept g3 (by cases hq : (Value.slice A1 n1 c1).ownBlock with | none => exact .inl rfl | some b => exact .inr (fun e => by injection e with e; have := (ok.2.lt b hq).2; omega)); have bw4 := (bk.grown g2 bk.size (by simp)).grown g3 (Nat.le_trans bk.size g2.size) (fun r e => by cases e; exact bk.size); clear g2 g3 z2 z3 q2)
          | (refine wpList_load_blk (w := w4) rfl 37 _ rfl w1.heap.size 4 rfl 37 _ q4 _ Tryz.underlying37 rfl (by kernel_rfl) rfl ?_))
        refine (rpack_any RD.d RD.k RD.v RD.s w4).mono ?_
        rintro e w5 ⟨rfl, b5⟩
        have o5 := o4.below b5
        have bw5 := bw4.trans (b5.mono bw4.size)
        clear b5 q4 o4
        go_wp2_with (first
          | (refine wpList_alloc_Row (w := w5) rfl 22 rfl .u8 32 zero_32 ?_; intro w6 r6 g6 z6)
          | (refine wpList_store_RowTo (w := w6) rfl 22 _ _ rfl w5.heap.size rfl 22 .u8 _ (packed RD.d RD.k RD.v RD.s) rfl r6 32 info_32 (packed_length _ _ _ _) (by simp) (packed_wf _ _ _ _) ?_; intro w7 r7 g7 z7; have o7 := (o5.kept g6 (by cases (Value.slice A1 n1 c1).ownBlock <;> simp)).kept g7 (by cases hq : (Value.slice A1 n1 c1).ownBlock with | none => exact .inl rfl | some b => exact .inr (fun e => by injection e with e; have := (o5.2.lt b hq).2; omega)); have bw7 := (bw5.grown g6 bw5.size (by simp)).grown g7 (Nat.le_trans bw5.size g6.size) (fun r e => by cases e; exact bw5.size); have i7 := r7.ints (n := 32) (by rw [packed_length]; omega); rw [List.take_of_length_le (by rw [packed_length]; omega)] at i7)
          | (refine wpList_run (w := w7) rfl (v := .slice (some ⟨w5.heap.size, 0, none⟩) 32 32) (Held.y_slice (S := fun _ => True) rfl (fun W => run_slice_arr_all (P := Tryz.prog) 22 5 32 w5.heap.size W Tryz.underlying22 (by kernel_rfl) (by omega)) _ trivial) ?_)
          | (at_builtin; refine wpList_append_ints w7 rfl _ _ 27 rfl w.heap.size 5 .u8 1 Tryz.underlying27 Help.info_u8 (.slice A1 n1 c1) (packs ((pad rs size).take k)) rfl o7 w7.heap.size (some ⟨w5.heap.size, 0, none⟩) 32 32 (packed RD.d RD.k RD.v RD.s) rfl i7 (by rw [HLN.out]; omega) (by omega) bw7.size ?_; intro v8 w8 o8 g8 t8; rw [show packs ((pad rs size).take k) ++ packed RD.d RD.k RD.v RD.s = packs ((pad rs size).take (k + 1)) from HS.out.symm] at o8; obtain ⟨A8, c8, rfl, _⟩ := o8.form; rw [HLN2.out] at o8 ⊢; have b8 := bw7.grown g8 bw7.size (fun r e => (o7.2.lt r e).1); clear g8 t8 g6 g7 z6 z7 r6 r7 i7 o7 o5))
        go_roundw
        case rel => exact ⟨k + 1, 32 * (k + 1), A8, c8, by omega, rfl, rfl, by go_num, o8, b8⟩
        case measure => simp [intOf]; omega
    · have hks : k = size := by omega
      subst hks
      have e := HN1.out
      subst e
      rw [List.take_of_length_le (by rw [HP.out]; omega)] at ok
      go_wp2_with fail
      exact bodyPost_ret (results_tmp2 rfl _ _ _) rfl ⟨A1, c1, rfl, ok, bk⟩
def word (zs : List Int) (i : Nat) : List Int := (zs.drop (32 * i)).take 32
theorem word_length {zs : List Int} {i size : Nat} (hl : zs.length = 32 * size) (hi : i < size) : (word zs i).length = 32 := by
  rw [word, List.length_take, List.length_drop, hl]
  omega
def recT (zs : List Int) : R := ⟨fld zs 0 == 1, wrap64 (fld zs 1), wrap64 (fld zs 2), wrap64 (fld zs 3)⟩
theorem recT_wf (zs : List Int) : (recT zs).wf := ⟨wrap64_wf _, wrap64_wf _, wrap64_wf _⟩
def allOk (zs : List Int) (size : Nat) : Bool := (List.range size).all fun i => mayB (word zs i)
theorem allOk_iff {zs : List Int} {size : Nat} : allOk zs size = true ↔ ∀ i, i < size → mayB (word zs i) = true := by simp [allOk]
def recsOf (zs : List Int) (k : Nat) : List R := (List.range k).map fun i => recT (word zs i)
theorem recsOf_length (zs : List Int) (k : Nat) : (recsOf zs k).length = k := by simp [recsOf]
theorem recsOf_snoc (zs : List Int) (k : Nat) : recsOf zs (k + 1) = recsOf zs k ++ [recT (word zs k)] := by simp [recsOf, List.range_succ]
theorem recsOf_wf (zs : List Int) (k : Nat) : ∀ r ∈ recsOf zs k, r.wf := fun r hr => by
  obtain ⟨i, _, rfl⟩ := List.mem_map.1 hr
  exact recT_wf _
def takesR (zs : List Int) (size : Int) : List R := if mayS size = true ∧ (zs.length : Int) = 32 * size ∧ allOk zs size.toNat = true then recsOf zs size.toNat else []
def takesE (zs : List Int) (size : Int) : Int := if mayS size = false then 1 else if (zs.length : Int) < 32 * size then 3 else if 32 * size < (zs.length : Int) then 4 else if allOk zs size.toNat = true then 0 else 4
theorem ints_mid {w : World} {B b off n : Nat} {zs : List Int} (hi : Ints w .u8 B (some ⟨b, off, none⟩) n zs) {o m : Nat} (hx : o + m ≤ n) (hm : 0 < m) : Ints w .u8 B (some ⟨b, off + o, none⟩) m ((zs.drop o).take m) := by
  refine ⟨by rw [List.length_take, List.length_drop, hi.1]; omega, fun z hz => hi.2.1 z (List.mem_of_mem_drop (List.mem_of_mem_take hz)), fun _ => ?_⟩
  obtain ⟨b', off', e, hb, hcc⟩ := hi.2.2 (by omega)
  injection e with e
  injection e with e1 e2
  subst e1
  subst e2
  refine ⟨b, off + o, rfl, hb, fun i hi8 => ?_⟩
  rw [Nat.add_assoc, hcc (o + i) (by omega)]
  simp [List.getD_eq_getElem?_getD, hi8]
theorem rtakes_bad (A : Option Addr) (n c : Nat) (size : Int) (w : World) (hs : mayS size = false) :
    Calls Tryz.prog 29 #[.slice A n c, .int .i64 size] w fun e w' => e = .returned (.tuple #[.slice none 0 0, .int .i64 1]) ∧ w = w' := by
  go_enter Tryz.func29, Tryz.ntmps29
  go_wp2_with fail
  refine (may_any size w).mono ?_
  rintro e w1 ⟨rfl, rfl⟩
  rw [hs]
  go_wp2_with fail
  exact bodyPost_ret (results_tmp2 rfl _ _ _) rfl ⟨rfl, rfl⟩
theorem rtakes_short (A : Option Addr) (n c : Nat) (size : Int) (w : World) (hs : mayS size = true) (hn : (n : Int) < 32 * size) :
    Calls Tryz.prog 29 #[.slice A n c, .int .i64 size] w fun e w' => e = .returned (.tuple #[.slice none 0 0, .int .i64 3]) ∧ w = w' := by
  have hb : 1 ≤ size ∧ size ≤ 8 := by simpa [mayS] using hs
  go_enter Tryz.func29, Tryz.ntmps29
  go_wp2_with fail
  refine (may_any size w).mono ?_
  rintro e w1 ⟨rfl, rfl⟩
  rw [hs]
  go_wp2_with fail
  exact bodyPost_ret (results_tmp2 rfl _ _ _) rfl ⟨rfl, rfl⟩
theorem rtakes_long (A : Option Addr) (n c : Nat) (size : Int) (w : World) (hs : mayS size = true) (hn : 32 * size < (n : Int)) :
    Calls Tryz.prog 29 #[.slice A n c, .int .i64 size] w fun e w' => e = .returned (.tuple #[.slice none 0 0, .int .i64 4]) ∧ w = w' := by
  have hb : 1 ≤ size ∧ size ≤ 8 := by simpa [mayS] using hs
  have hn' : ¬ (n : Int) < 32 * size := by omega
  go_enter Tryz.func29, Tryz.ntmps29
  go_wp2_with fail
  refine (may_any size w).mono ?_
  rintro e w1 ⟨rfl, rfl⟩
  rw [hs]
  go_wp2_with fail
  exact bodyPost_ret (results_tmp2 rfl _ _ _) rfl ⟨rfl, rfl⟩
set_option maxRecDepth 100000 in
set_option maxHeartbeats 4000000 in
theorem rtakes_at (B : Nat) (b off c : Nat) (zs : List Int) (size : Nat) (w : World) (h : Ints w .u8 B (some ⟨b, off, none⟩) (32 * size) zs) (hb : b < B) (hB : B ≤ w.heap.size) (hc : 32 * size ≤ c) (h1 : 1 ≤ size) (h8 : size ≤ 8) :
    Calls Tryz.prog 29 #[.slice (some ⟨b, off, none⟩) (32 * size) c, .int .i64 (size : Int)] w fun e w' => ∃ A' n' c', e = .returned (.tuple #[.slice A' n' c', .int .i64 (if allOk zs size = true then 0 else 4)]) ∧ OwnR w' w.heap.size (.slice A' n' c') (if allOk zs size = true then recsOf zs size else []) ∧ Below w.heap.size w w' := by
  have hs : mayS (size : Int) = true := by simp [mayS]; omega
  have HL := Lib.hid h.1
  have hsz : (size : Int) ≤ 8 := by omega
  have hmul : ((32 * size : Nat) : Int) = 32 * (size : Int) := by omega
  obtain ⟨n, hn⟩ : ∃ n, 32 * size = n := ⟨_, rfl⟩
  rw [hn] at h hc hmul HL ⊢
  have HN := Lib.hid hn
  clear hn
  have hlt0 : ¬ (n : Int) < 32 * (size : Int) := by omega
  have hgt0 : ¬ 32 * (size : Int) < (n : Int) := by omega
  have hld : decide ((n : Int) < 32 * (size : Int)) = false := by simp; omega
  have hgd : decide (32 * (size : Int) < (n : Int)) = false := by simp; omega
  clear hmul
  obtain ⟨E, hE⟩ : ∃ E, (if allOk zs size = true then (0 : Int) else 4) = E := ⟨_, rfl⟩
  obtain ⟨RR, hRR⟩ : ∃ RR, (if allOk zs size = true then recsOf zs size else []) = RR := ⟨_, rfl⟩
  rw [hE, hRR]
  have HEE := Lib.hid hE
  have HRR := Lib.hid hRR
  clear hE hRR
  go_enter Tryz.func29, Tryz.ntmps29
  go_wp2_with fail
  refine (may_any (size : Int) w).mono ?_
  rintro e w1 ⟨rfl, rfl⟩
  rw [hs]
  go_wp2_with fail
  go_loopw [6, 7] (fun u i wr => ∃ (k : Nat) (A1 : Option Addr) (c1 : Nat), k ≤ size ∧ u = .slice A1 k c1 ∧ i = .int .i64 k ∧ OwnR wr w.heap.size (.slice A1 k c1) (recsOf zs k) ∧ Hid (∀ i, i < k → mayB (word zs i) = true) ∧ Below w.heap.size w wr) (fun _ i _ => size - (intOf i).toNat)
  case atStart => exact ⟨0, none, 0, by omega, rfl, rfl, OwnR.nil _ _, Lib.hid (fun i hi => absurd hi (by omega)), Below.refl _ _⟩
  case round =>
    obtain ⟨k, A1, c1, hk, rfl, rfl, ok, hall, bk⟩ := hrel
    by_cases hlt : k < size
    · have hlt' : (k : Int) < (size : Int) := by omega
      have hk0 : (0 : Int) ≤ (k : Int) := by omega
      have hkn : 32 * k + 32 ≤ n := by have := HN.out; omega
      have iw := ints_mid (h.below (bk.mono hB)) (o := 32 * k) (m := 32) hkn (by omega)
      have hsl : ∀ W, (Instr.sliceAt 27 (.slice (some ⟨b, off, none⟩) n c) (some (.int .i64 (32 * (k : Int)))) (some (.int .i64 (32 * (k : Int) + 32))) none).run Tryz.prog W = .ok (.slice (some ⟨b, off + 32 * k, none⟩) 32 (c - 32 * k)) W := fun W => by
        have := run_midO (P := Tryz.prog) Tryz.underlying27 Rc.size_u8 b off n (cap := c) (l := 32 * k) (h := 32 * k + 32) (by omega) (by omega) (by omega) W
        rwa [show 32 * k + 32 - 32 * k = 32 by omega] at this
      have hc32 : 32 ≤ c - 32 * k := by omega
      go_wp2_with (refine wpList_run (w := wr) rfl (v := .slice (some ⟨b, off + 32 * k, none⟩) 32 (c - 32 * k)) (Held.y_slice (S := fun _ => True) rfl hsl _ trivial) ?_)
      refine (rtake_any B (some ⟨b, off + 32 * k, none⟩) 32 (c - 32 * k) _ wr iw (Nat.le_trans hB bk.size) hc32 (by omega)).mono ?_
      rintro e w1 ⟨rfl, b1⟩
      have ok := ok.below b1
      have bk := bk.trans (b1.mono bk.size)
      have hwl := word_length (i := k) (by rw [HL.out, HN.out]) hlt
      clear b1 iw hsl
      by_cases hm : mayB (word zs k) = true
      · have HC := Lib.hid (show takenC ((zs.drop (32 * k)).take 32) = #[.bool (recT (word zs k)).d, .int .i64 (recT (word zs k)).k, .int .i64 (recT (word zs k)).v, .int .i64 (recT (word zs k)).s] by
          show takenC (word zs k) = _
          unfold takenC
          rw [if_pos ⟨hwl, hm⟩]
          rfl)
        have HE := Lib.hid (show takenE ((zs.drop (32 * k)).take 32) = 0 by
          show takenE (word zs k) = 0
          unfold takenE
          rw [if_neg (by omega), if_pos ⟨hwl, hm⟩])
        have HALL := Lib.hid (show ∀ i, i < k + 1 → mayB (word zs i) = true from fun i hi => by
          by_cases hik : i < k
          · exact hall.out i hik
          · rw [show i = k by omega]; exact hm)
        have HS := Lib.hid (recsOf_snoc zs k)
        have hrw := recT_wf (word zs k)
        have HRL := Lib.hid (recsOf_length zs k)
        have HRL2 := Lib.hid (recsOf_length zs (k + 1))
        rw [HC.out, HE.out]
        generalize recT (word zs k) = x at HC HS hrw
        clear hm hall hwl HC
        go_wp2_with (first
          | (refine wpList_alloc_blk (w := w1) rfl 37 rfl _ zero_rec ?_; intro w2 q2 g2 z2)
          | (refine wpList_store_blk (w := w2) rfl 37 _ _ rfl w1.heap.size 4 rfl 37 _ #[.bool x.d, .int .i64 x.k, .int .i64 x.v, .int .i64 x.s] rfl q2 info_rec rfl rfl (by kernel_rfl) ?_; intro w3 q3 g3 z3; have o3 := (ok.kept g2 (by cases (Value.slice A1 k c1).ownBlock <;> simp)).kept g3 (by cases hq : (Value.slice A1 k c1).ownBlock with | none => exact .inl rfl | some b => exact .inr (fun e => by injection e with e; have := (ok.lt b hq).2; omega)); have b3 := (bk.grown g2 bk.size (by simp)).grown g3 (Nat.le_trans bk.size g2.size) (fun r e => by cases e; exact bk.size))
          | (refine wpList_load_blk (w := w3) rfl 37 _ rfl w1.heap.size 4 rfl 37 _ q3 _ Tryz.underlying37 rfl (by kernel_rfl) rfl ?_)
          | (refine wpList_build_rec (w := w3) rfl _ rfl x rfl ?_; intro w4 q4 g4 z4; have o4 := o3.kept g4 (by cases (Value.slice A1 k c1).ownBlock <;> simp); have b4 := b3.grown g4 b3.size (by simp); have i4 : Recs w4 w4.heap.size (some ⟨w3.heap.size, 0, none⟩) 1 [x] := recs_of_blk (rs := [x]) (qs := []) (by rw [List.append_nil, flat_one]; exact q4) (fun r hr => by rw [List.mem_singleton.1 hr]; exact hrw))
          | (at_builtin; refine wpList_append_recs (w := w4) rfl _ _ rfl w.heap.size w4.heap.size w3.heap.size 0 1 1 (.slice A1 k c1) (recsOf zs k) [x] rfl rfl o4 i4 (by rw [HRL.out]; omega) b4.size ?_; intro v5 w5 o5 g5 t5; rw [← HS.out] at o5; obtain ⟨A5, c5, rfl, _⟩ := o5.form; rw [HRL2.out] at o5 ⊢; have b5 := b4.grown g5 b4.size (fun r e => (o4.lt r e).1); clear g5 t5 g4 g3 g2 z2 z3 z4 q2 q3 q4 i4 o4 o3 b3 b4))
        go_roundw
        case rel => exact ⟨k + 1, A5, c5, by omega, rfl, by go_num, o5, HALL, b5⟩
        case measure => simp [intOf]; omega
      · have HC := Lib.hid (show takenC ((zs.drop (32 * k)).take 32) = noneC by
          show takenC (word zs k) = _
          unfold takenC
          rw [if_neg (fun h => hm h.2)])
        have HE := Lib.hid (show takenE ((zs.drop (32 * k)).take 32) = 4 by
          show takenE (word zs k) = 4
          unfold takenE
          rw [if_neg (by omega), if_neg (fun h => hm h.2)])
        have HA := Lib.hid (show allOk zs size = false by
          cases hq : allOk zs size
          · rfl
          · exact absurd (allOk_iff.1 hq k hlt) hm)
        rw [HC.out, HE.out]
        clear hm hall hwl HC
        go_wp2_with (first
          | (refine wpList_alloc_blk (w := w1) rfl 37 rfl _ zero_rec ?_; intro w2 q2 g2 z2)
          | (refine wpList_store_blk (w := w2) rfl 37 _ _ rfl w1.heap.size 4 rfl 37 _ noneC rfl q2 info_rec rfl rfl (by kernel_rfl) ?_; intro w3 q3 g3 z3; have b3 := (bk.grown g2 bk.size (by simp)).grown g3 (Nat.le_trans bk.size g2.size) (fun r e => by cases e; exact bk.size)))
        exact bodyPost_ret (results_tmp2 rfl _ _ _) rfl ⟨none, 0, 0, by rw [← HEE.out, HA.out]; rfl, by rw [← HRR.out, HA.out]; exact OwnR.nil _ _, b3⟩
    · have hks : k = size := by omega
      subst hks
      have HA := Lib.hid (allOk_iff.2 hall.out)
      go_wp2_with fail
      exact bodyPost_ret (results_tmp2 rfl _ _ _) rfl ⟨A1, k, c1, by rw [← HEE.out, HA.out]; rfl, by rw [← HRR.out, HA.out]; exact ok, bk⟩
theorem rtakes_any (B : Nat) (A : Option Addr) (n c : Nat) (zs : List Int) (size : Int) (w : World) (h : Ints w .u8 B A n zs) (hB : B ≤ w.heap.size) (hc : n ≤ c) :
    Calls Tryz.prog 29 #[.slice A n c, .int .i64 size] w fun e w' => ∃ A' n' c', e = .returned (.tuple #[.slice A' n' c', .int .i64 (takesE zs size)]) ∧ OwnR w' w.heap.size (.slice A' n' c') (takesR zs size) ∧ Below w.heap.size w w' := by
  have hl := h.1
  by_cases hs : mayS size = true
  · have hb : 1 ≤ size ∧ size ≤ 8 := by simpa [mayS] using hs
    by_cases h1 : (n : Int) < 32 * size
    · refine (rtakes_short A n c size w hs h1).mono ?_
      rintro e w' ⟨rfl, rfl⟩
      refine ⟨none, 0, 0, ?_, ?_, Below.refl _ _⟩
      · unfold takesE
        rw [if_neg (by simp [hs]), hl, if_pos h1]
      · unfold takesR
        rw [if_neg (fun h => by have := h.2.1; omega)]
        exact OwnR.nil _ _
    · by_cases h2 : 32 * size < (n : Int)
      · refine (rtakes_long A n c size w hs h2).mono ?_
        rintro e w' ⟨rfl, rfl⟩
        refine ⟨none, 0, 0, ?_, ?_, Below.refl _ _⟩
        · unfold takesE
          rw [if_neg (by simp [hs]), hl, if_neg h1, if_pos h2]
        · unfold takesR
          rw [if_neg (fun h => by have := h.2.1; omega)]
          exact OwnR.nil _ _
      · obtain ⟨q, rfl⟩ : ∃ q : Nat, (q : Int) = size := ⟨size.toNat, by omega⟩
        have hn : n = 32 * q := by omega
        subst hn
        obtain ⟨b, off, rfl, hbB, _⟩ := h.2.2 (by omega)
        refine (rtakes_at B b off c zs q w h hbB hB hc (by omega) (by omega)).mono ?_
        rintro e w' ⟨A', n', c', rfl, ho, hw⟩
        refine ⟨A', n', c', ?_, ?_, hw⟩
        · have HE : takesE zs (q : Int) = if allOk zs q = true then 0 else 4 := by
            unfold takesE
            rw [if_neg (by simp [hs]), hl, if_neg h1, if_neg h2]
            rfl
          rw [HE]
        · unfold takesR
          rw [hl, Int.toNat_natCast]
          by_cases ha : allOk zs q = true
          · rw [if_pos ha] at ho
            rw [if_pos ⟨hs, by omega, ha⟩]
            exact ho
          · rw [if_neg ha] at ho
            rw [if_neg (fun h => ha h.2.2)]
            exact ho
  · have hs' : mayS size = false := by simpa using hs
    refine (rtakes_bad A n c size w hs').mono ?_
    rintro e w' ⟨rfl, rfl⟩
    refine ⟨none, 0, 0, ?_, ?_, Below.refl _ _⟩
    · unfold takesE
      rw [if_pos hs']
    · unfold takesR
      rw [if_neg (fun h => hs h.1)]
      exact OwnR.nil _ _
def packE (n : Nat) (size : Int) : Int := if mayS size = false then 1 else if size < (n : Int) then 5 else 0
def packB (rs : List R) (size : Int) : List Int := if mayS size = true ∧ (rs.length : Int) ≤ size then packs (pad rs size.toNat) else []
theorem takesR_wf (zs : List Int) (size : Int) : ∀ r ∈ takesR zs size, r.wf := by
  unfold takesR
  split
  · exact recsOf_wf _ _
  · exact fun r hr => absurd hr (by simp)
theorem takesR_length (zs : List Int) (size : Int) : (takesR zs size).length ≤ 8 := by
  unfold takesR
  split
  · rename_i h
    have hb : 1 ≤ size ∧ size ≤ 8 := by simpa [mayS] using h.1
    rw [recsOf_length]
    omega
  · simp
def sizeV (size : Int) : Int := 32 * max 0 (min size 8) + 16
end Go.Proofs.YtjelacblnjbfgaaGreatDoor.Rs
