/-
  The document's own Ahead, Before, Pack and Take of records, and the laws' first line, by their contracts. Conditions: the numbers fit their kinds; bytes that read as a list, at most 2^40 of them.
-/
import Derived.Test.YtdfnacnklmmjhaaRc6
import Derived.Test.YtdfnacnklmmjhaaEig
import Derived.Test.YtdfnacnklmmjhaaCut
import Derived.BigQuiet
namespace Go.Proofs.Ytdfnacnklmmjhaa.Rc
open Go.RowKit Go.Shelf Go.Proofs.Ytdfnacnklmmjhaa.Mem Go.Proofs.Ytdfnacnklmmjhaa.Help Go.Proofs.Ytdfnacnklmmjhaa.Sum Go.Proofs.Ytdfnacnklmmjhaa.Po Go.Proofs.Ytdfnacnklmmjhaa.Ky Go.Proofs.Ytdfnacnklmmjhaa.Ct Go.Proofs.Ytdfnacnklmmjhaa.Bit Go.Proofs.Ytdfnacnklmmjhaa.Held Go.Proofs.Ytdfnacnklmmjhaa
set_option linter.unusedVariables false
attribute [local irreducible] wpList wpListIn Calls

set_option maxRecDepth 100000 in
set_option maxHeartbeats 4000000 in
theorem rahead_any (da : Bool) (ka va sa : Int) (db : Bool) (kb vb sb : Int) (w : World) :
    Calls Try.prog 18 #[.agg #[.bool da, .int .i64 ka, .int .i64 va, .int .i64 sa], .agg #[.bool db, .int .i64 kb, .int .i64 vb, .int .i64 sb]] w fun e w' => e = .returned (.int .u64 (oneI (ahd da ka db kb))) ∧ Below w.heap.size w w' := by
  obtain ⟨l, hl⟩ : ∃ l, decide (ka < kb) = l := ⟨_, rfl⟩
  have HR := Lib.hid (show ahd da ka db kb = (!da && (db || l)) by unfold ahd; rw [hl])
  cases da <;> cases db <;> cases l
  all_goals simp only [decide_eq_true_eq, decide_eq_false_iff_not] at hl
  all_goals try (exfalso; omega)
  all_goals
    go_enter Try.func18, Try.ntmps18
    go_wp2_with (first
      | (refine wpList_box_blk (w := w) rfl 23 _ rfl _ rfl ?_; intro wa qa ga za)
      | (refine wpList_box_blk (w := wa) rfl 23 _ rfl _ rfl ?_; intro wb qb gb zb; have qa := qa.grown gb (by simp); have a0 := qa.cell (i := 0) rfl; have a1 := qa.cell (i := 1) rfl; have a3 := qa.cell (i := 3) rfl; have b0 := qb.cell (i := 0) rfl; have b1 := qb.cell (i := 1) rfl; have b3 := qb.cell (i := 3) rfl))
    have bz : Below w.heap.size w wb := ((Below.refl _ w).grown ga (Nat.le_refl _) (by simp)).grown gb ga.size (by simp)
    refine (rone_b _ _).mono ?_
    rintro e wy ⟨rfl, by_⟩
    have dy := bz.trans (by_.mono bz.size)
    go_wp2_with fail
    go_ret
    exact ⟨by rw [HR.out]; rfl, dy⟩

set_option maxRecDepth 100000 in
set_option maxHeartbeats 4000000 in
theorem rbefore_any (da : Bool) (ka va sa : Int) (db : Bool) (kb vb sb : Int) (w : World) :
    Calls Try.prog 16 #[.agg #[.bool da, .int .i64 ka, .int .i64 va, .int .i64 sa], .agg #[.bool db, .int .i64 kb, .int .i64 vb, .int .i64 sb]] w fun e w' => e = .returned (.int .u64 (oneI (bef da ka sa db kb sb))) ∧ Below w.heap.size w w' := by
  obtain ⟨l, hl⟩ : ∃ l, decide (ka < kb) = l := ⟨_, rfl⟩
  obtain ⟨q, hq⟩ : ∃ q, decide (ka = kb) = q := ⟨_, rfl⟩
  obtain ⟨z, hz⟩ : ∃ z, decide (sa < sb) = z := ⟨_, rfl⟩
  have HR := Lib.hid (show bef da ka sa db kb sb = (!da && (db || (l || (q && z)))) by unfold bef; rw [hl, hq, hz])
  cases da <;> cases db <;> cases l <;> cases q <;> cases z
  all_goals simp only [decide_eq_true_eq, decide_eq_false_iff_not] at hl hq hz
  all_goals try (exfalso; omega)
  all_goals
    go_enter Try.func16, Try.ntmps16
    go_wp2_with (first
      | (refine wpList_box_blk (w := w) rfl 23 _ rfl _ rfl ?_; intro wa qa ga za)
      | (refine wpList_box_blk (w := wa) rfl 23 _ rfl _ rfl ?_; intro wb qb gb zb; have qa := qa.grown gb (by simp); have a0 := qa.cell (i := 0) rfl; have a1 := qa.cell (i := 1) rfl; have a3 := qa.cell (i := 3) rfl; have b0 := qb.cell (i := 0) rfl; have b1 := qb.cell (i := 1) rfl; have b3 := qb.cell (i := 3) rfl))
    have bz : Below w.heap.size w wb := ((Below.refl _ w).grown ga (Nat.le_refl _) (by simp)).grown gb ga.size (by simp)
    refine (rone_b _ _).mono ?_
    rintro e wy ⟨rfl, by_⟩
    have dy := bz.trans (by_.mono bz.size)
    go_wp2_with fail
    go_ret
    exact ⟨by rw [HR.out]; rfl, dy⟩

/-- one more behind: bytes laid into an array of 32, one by one -/
theorem packed_dead (k v s : Int) : packed true k v s = eights [1, 0, 0, 0] := rfl
theorem packed_alive (k v s : Int) : packed false k v s = eights [0, u64 k, u64 v, u64 s] := rfl
theorem info_w64 : (Try.prog.info? 35).map (fun i => (i.zero, i.size, i.bytes)) = some (some (.int .u64 0), 1, 8) := by kernel_rfl

set_option maxRecDepth 100000 in
set_option maxHeartbeats 4000000 in
theorem rpack_true (k v s : Int) (w : World) :
    Calls Try.prog 13 #[.agg #[.bool true, .int .i64 k, .int .i64 v, .int .i64 s]] w fun e w' => e = .returned (.agg (arr .u8 (packed true k v s))) ∧ Below w.heap.size w w' := by
  have e1 := u64_eq k
  have e2 := u64_eq v
  have e3 := u64_eq s
  have hw0 : ∀ z ∈ [0, u64 k, u64 v, u64 s], (Lit.int .u64 z).wf = true := numbers_wf false k v s
  go_enter Try.func13, Try.ntmps13
  go_wp2_with (first
    | (refine wpList_box_blk (w := w) rfl 23 _ rfl #[.bool true, .int .i64 k, .int .i64 v, .int .i64 s] rfl ?_; intro ua qa ga za)
    | (refine wpList_alloc_Row (w := ua) rfl 30 rfl .u8 32 zero_32 ?_; intro ub rr gb zb; have qa := qa.grown gb (by simp); have a0 := qa.cell (i := 0) rfl; have a1 := qa.cell (i := 1) rfl; have a2 := qa.cell (i := 2) rfl; have a3 := qa.cell (i := 3) rfl)
    | (refine Held.wpList_build_row (w := ub) rfl 60 35 4 _ rfl .u64 8 [0, u64 k, u64 v, u64 s] Try.underlying60 info_w64 (by simp [Act.eval]) rfl (by omega) (by omega) hw0 ?_; intro uc rc gc zc))
  have bz : Below w.heap.size w uc := (((Below.refl _ w).grown ga (Nat.le_refl _) (by simp)).grown gb ga.size (by simp)).grown gc (Nat.le_trans ga.size gb.size) (by simp)
  have hwa : w.heap.size ≤ ua.heap.size := ga.size
  have qa := qa.grown gc (by simp)
  have rr := rr.grown gc (by simp)
  have i4 : Ints uc .u64 uc.heap.size (some ⟨ub.heap.size, 0, none⟩) 4 [0, u64 k, u64 v, u64 s] := rc.ints (n := 4) (by simp)
  clear ga gb gc za zb zc a0 a1 a2 a3 rc
  refine (eights_any uc.heap.size (some ⟨ub.heap.size, 0, none⟩) 4 4 [0, u64 k, u64 v, u64 s] uc i4 (Nat.le_refl _) (by omega)).mono ?_
  rintro e ud ⟨Ad, nd, cd, rfl, od, bd⟩
  have bz := bz.trans (bd.mono bz.size)
  have qa := qa.after bd
  have rr := rr.below bd rr.lt
  have a0 := qa.cell (i := 0) rfl
  clear i4 bd
  go_wp2_with (refine Held.wpList_build_row (w := ud) rfl 60 35 4 _ rfl .u64 8 [1, 0, 0, 0] Try.underlying60 info_w64 (by simp [Act.eval]) rfl (by omega) (by omega) (by decide) ?_; intro ue re ge ze)
  have bz := bz.grown ge bz.size (by simp)
  have rr := rr.grown ge (by simp)
  have i4 : Ints ue .u64 ue.heap.size (some ⟨ud.heap.size, 0, none⟩) 4 [1, 0, 0, 0] := re.ints (n := 4) (by simp)
  clear ge ze re od qa a0
  refine (eights_any ue.heap.size (some ⟨ud.heap.size, 0, none⟩) 4 4 [1, 0, 0, 0] ue i4 (Nat.le_refl _) (by omega)).mono ?_
  rintro e uf ⟨Af, nf, cf, rfl, oL, bf⟩
  have bL := bz.trans (bf.mono bz.size)
  have rr := rr.below bf rr.lt
  have lrr := rr.lt
  clear i4 bf bz
  have HPL := Lib.hid (packed_length true k v s)
  have HPW := Lib.hid (packed_wf true k v s)
  obtain ⟨E, hE⟩ : ∃ E, packed true k v s = E := ⟨_, rfl⟩
  rw [hE] at HPL HPW
  rw [← packed_dead k v s, hE] at oL
  have HEE := Lib.hid hE
  clear hE
  have iL : Ints uf .u8 uf.heap.size Af nf E := oL.ints (by obtain ⟨_, _, e, _⟩ := oL.form; injection e with _ e; exact e.symm)
  have hln : nf = 32 := iL.1.symm.trans HPL.out
  subst hln
  clear oL
  go_wp2_with (refine wpList_alloc_Row (w := uf) rfl 30 rfl .u8 32 zero_32 ?_; intro ux rx gx zx)
  have iL := (iL.keep (w' := ux) (fun q hq => World.cell?_of_block (gx.block q.block hq (by simp))))
  have rr := rr.grown gx (by simp)
  have bL := bL.grown gx bL.size (by simp)
  have hne : ua.heap.size < uf.heap.size := lrr
  have hF : E.length = (List.replicate 32 (0 : Int)).length := by rw [HPL.out]; simp
  clear gx zx
  go_loopw [5] (fun i wr => ∃ j : Nat, j ≤ 32 ∧ i = .int .i64 j ∧ Row wr uf.heap.size 30 .u8 (blend E (List.replicate 32 0) j) ∧ Ints wr .u8 uf.heap.size Af 32 E ∧ Row wr ua.heap.size 30 .u8 (List.replicate 32 0) ∧ Below w.heap.size w wr) (fun i _ => 32 - (intOf i).toNat)
  case atStart => exact ⟨0, by omega, rfl, by rw [blend_zero]; exact rx, iL, rr, bL⟩
  case round =>
    clear rx iL rr bL
    obtain ⟨j, hj, rfl, rx, iL, rr, bL⟩ := hrel
    by_cases hlt : j < 32
    · obtain ⟨b, off, rfl, hb, hc⟩ := iL.at_ hlt
      have hlt' : (j : Int) < 32 := by omega
      have hj0 : (0 : Int) ≤ (j : Int) := by omega
      have HS := Lib.hid (blend_set hF (i := j) (by simpa using hlt))
      have HB := Lib.hid (show j < (blend E (List.replicate 32 0) j).length by rw [blend_length hF]; simpa using hlt)
      have hz := iL.range hlt
      have hbw : w.heap.size ≤ uf.heap.size := by omega
      generalize E.getD j 0 = z at hc HS hz
      go_wp2_with (refine wpList_store_elem (w := wr) rfl 5 _ _ rfl uf.heap.size j rfl 30 .u8 _ z rfl rx HB.out size_u8 hz ?_; intro wq rx gq zq; rw [HS.out] at rx)
      have iL := iL.keep (w' := wq) (fun q hq => World.cell?_of_block (gq.block q.block (Nat.lt_of_lt_of_le hq (Nat.le_of_lt (by have := rx.lt; have := zq.out; omega))) (by intro e; injection e with e; omega)))
      have rr := rr.grown gq (by intro e; injection e with e; omega)
      have bL := bL.grown gq bL.size (fun r e => by cases e; exact hbw)
      clear gq zq HS HB hc
      go_roundw
      case rel => exact ⟨j + 1, by omega, by go_num, rx, iL, rr, bL⟩
      case measure => simp [intOf]; omega
    · have hj32 : j = 32 := by omega
      subst hj32
      rw [show blend E (List.replicate 32 0) 32 = E by have := blend_all hF; rwa [List.length_replicate] at this] at rx
      go_wp2_with (first
        | (refine wpList_load_Row rfl 30 _ rfl uf.heap.size rfl 30 .u8 _ rx 32 5 Try.underlying30 info_32 HPL.out ?_)
        | (refine wpList_store_RowTo (w := wr) rfl 30 _ _ rfl ua.heap.size rfl 30 .u8 _ _ rfl rr 32 info_32 HPL.out (by simp) HPW.out ?_; intro wq rq gq zq))
      exact bodyPost_ret (results_Row rfl _ _ ua.heap.size _ _ _ rfl rq 32 5 Try.underlying30 info_32 HPL.out) rfl ⟨by rw [← HEE.out], bL.grown gq bL.size (fun r e => by cases e; exact hwa)⟩

set_option maxRecDepth 100000 in
set_option maxHeartbeats 4000000 in
theorem rpack_false (k v s : Int) (w : World) :
    Calls Try.prog 13 #[.agg #[.bool false, .int .i64 k, .int .i64 v, .int .i64 s]] w fun e w' => e = .returned (.agg (arr .u8 (packed false k v s))) ∧ Below w.heap.size w w' := by
  have e1 := u64_eq k
  have e2 := u64_eq v
  have e3 := u64_eq s
  have hw0 : ∀ z ∈ [0, u64 k, u64 v, u64 s], (Lit.int .u64 z).wf = true := numbers_wf false k v s
  go_enter Try.func13, Try.ntmps13
  go_wp2_with (first
    | (refine wpList_box_blk (w := w) rfl 23 _ rfl #[.bool false, .int .i64 k, .int .i64 v, .int .i64 s] rfl ?_; intro ua qa ga za)
    | (refine wpList_alloc_Row (w := ua) rfl 30 rfl .u8 32 zero_32 ?_; intro ub rr gb zb; have qa := qa.grown gb (by simp); have a0 := qa.cell (i := 0) rfl; have a1 := qa.cell (i := 1) rfl; have a2 := qa.cell (i := 2) rfl; have a3 := qa.cell (i := 3) rfl)
    | (refine Held.wpList_build_row (w := ub) rfl 60 35 4 _ rfl .u64 8 [0, u64 k, u64 v, u64 s] Try.underlying60 info_w64 (by simp [Act.eval]) rfl (by omega) (by omega) hw0 ?_; intro uc rc gc zc))
  have bz : Below w.heap.size w uc := (((Below.refl _ w).grown ga (Nat.le_refl _) (by simp)).grown gb ga.size (by simp)).grown gc (Nat.le_trans ga.size gb.size) (by simp)
  have hwa : w.heap.size ≤ ua.heap.size := ga.size
  have qa := qa.grown gc (by simp)
  have rr := rr.grown gc (by simp)
  have i4 : Ints uc .u64 uc.heap.size (some ⟨ub.heap.size, 0, none⟩) 4 [0, u64 k, u64 v, u64 s] := rc.ints (n := 4) (by simp)
  clear ga gb gc za zb zc a0 a1 a2 a3 rc
  refine (eights_any uc.heap.size (some ⟨ub.heap.size, 0, none⟩) 4 4 [0, u64 k, u64 v, u64 s] uc i4 (Nat.le_refl _) (by omega)).mono ?_
  rintro e ud ⟨Ad, nd, cd, rfl, od, bd⟩
  have bz := bz.trans (bd.mono bz.size)
  have qa := qa.after bd
  have rr := rr.below bd rr.lt
  have a0 := qa.cell (i := 0) rfl
  clear i4 bd
  have oL := od
  have bL := bz
  have lrr := rr.lt
  clear od bz
  have HPL := Lib.hid (packed_length false k v s)
  have HPW := Lib.hid (packed_wf false k v s)
  obtain ⟨E, hE⟩ : ∃ E, packed false k v s = E := ⟨_, rfl⟩
  rw [hE] at HPL HPW
  rw [← packed_alive k v s, hE] at oL
  have HEE := Lib.hid hE
  clear hE
  have iL : Ints ud .u8 ud.heap.size Ad nd E := oL.ints (by obtain ⟨_, _, e, _⟩ := oL.form; injection e with _ e; exact e.symm)
  have hln : nd = 32 := iL.1.symm.trans HPL.out
  subst hln
  clear oL
  clear qa
  go_wp2_with (refine wpList_alloc_Row (w := ud) rfl 30 rfl .u8 32 zero_32 ?_; intro ux rx gx zx)
  have iL := (iL.keep (w' := ux) (fun q hq => World.cell?_of_block (gx.block q.block hq (by simp))))
  have rr := rr.grown gx (by simp)
  have bL := bL.grown gx bL.size (by simp)
  have hne : ua.heap.size < ud.heap.size := lrr
  have hF : E.length = (List.replicate 32 (0 : Int)).length := by rw [HPL.out]; simp
  clear gx zx
  go_loopw [5] (fun i wr => ∃ j : Nat, j ≤ 32 ∧ i = .int .i64 j ∧ Row wr ud.heap.size 30 .u8 (blend E (List.replicate 32 0) j) ∧ Ints wr .u8 ud.heap.size Ad 32 E ∧ Row wr ua.heap.size 30 .u8 (List.replicate 32 0) ∧ Below w.heap.size w wr) (fun i _ => 32 - (intOf i).toNat)
  case atStart => exact ⟨0, by omega, rfl, by rw [blend_zero]; exact rx, iL, rr, bL⟩
  case round =>
    clear rx iL rr bL
    obtain ⟨j, hj, rfl, rx, iL, rr, bL⟩ := hrel
    by_cases hlt : j < 32
    · obtain ⟨b, off, rfl, hb, hc⟩ := iL.at_ hlt
      have hlt' : (j : Int) < 32 := by omega
      have hj0 : (0 : Int) ≤ (j : Int) := by omega
      have HS := Lib.hid (blend_set hF (i := j) (by simpa using hlt))
      have HB := Lib.hid (show j < (blend E (List.replicate 32 0) j).length by rw [blend_length hF]; simpa using hlt)
      have hz := iL.range hlt
      have hbw : w.heap.size ≤ ud.heap.size := by omega
      generalize E.getD j 0 = z at hc HS hz
      go_wp2_with (refine wpList_store_elem (w := wr) rfl 5 _ _ rfl ud.heap.size j rfl 30 .u8 _ z rfl rx HB.out size_u8 hz ?_; intro wq rx gq zq; rw [HS.out] at rx)
      have iL := iL.keep (w' := wq) (fun q hq => World.cell?_of_block (gq.block q.block (Nat.lt_of_lt_of_le hq (Nat.le_of_lt (by have := rx.lt; have := zq.out; omega))) (by intro e; injection e with e; omega)))
      have rr := rr.grown gq (by intro e; injection e with e; omega)
      have bL := bL.grown gq bL.size (fun r e => by cases e; exact hbw)
      clear gq zq HS HB hc
      go_roundw
      case rel => exact ⟨j + 1, by omega, by go_num, rx, iL, rr, bL⟩
      case measure => simp [intOf]; omega
    · have hj32 : j = 32 := by omega
      subst hj32
      rw [show blend E (List.replicate 32 0) 32 = E by have := blend_all hF; rwa [List.length_replicate] at this] at rx
      go_wp2_with (first
        | (refine wpList_load_Row rfl 30 _ rfl ud.heap.size rfl 30 .u8 _ rx 32 5 Try.underlying30 info_32 HPL.out ?_)
        | (refine wpList_store_RowTo (w := wr) rfl 30 _ _ rfl ua.heap.size rfl 30 .u8 _ _ rfl rr 32 info_32 HPL.out (by simp) HPW.out ?_; intro wq rq gq zq))
      exact bodyPost_ret (results_Row rfl _ _ ua.heap.size _ _ _ rfl rq 32 5 Try.underlying30 info_32 HPL.out) rfl ⟨by rw [← HEE.out], bL.grown gq bL.size (fun r e => by cases e; exact hwa)⟩

theorem rpack_any (d : Bool) (k v s : Int) (w : World) :
    Calls Try.prog 13 #[.agg #[.bool d, .int .i64 k, .int .i64 v, .int .i64 s]] w fun e w' => e = .returned (.agg (arr .u8 (packed d k v s))) ∧ Below w.heap.size w w' := by
  cases d
  · exact rpack_false k v s w
  · exact rpack_true k v s w

theorem ints_word {w : World} {B b off n : Nat} {zs : List Int} (hi : Ints w .u8 B (some ⟨b, off, none⟩) n zs) {x : Nat} (hx : 8 * x + 8 ≤ n) : Ints w .u8 B (some ⟨b, off + 8 * x, none⟩) 8 ((zs.drop (8 * x)).take 8) := by
  refine ⟨by rw [List.length_take, List.length_drop, hi.1]; omega, fun z hz => hi.2.1 z (List.mem_of_mem_drop (List.mem_of_mem_take hz)), fun _ => ?_⟩
  obtain ⟨b', off', e, hb, hcc⟩ := hi.2.2 (by omega)
  injection e with e
  injection e with e1 e2
  subst e1
  subst e2
  refine ⟨b, off + 8 * x, rfl, hb, fun i hi8 => ?_⟩
  rw [Nat.add_assoc, hcc (8 * x + i) (by omega)]
  simp [List.getD_eq_getElem?_getD, hi8]
theorem rnum_b (B : Nat) (A : Option Addr) (c : Nat) (zs : List Int) (x : Int) (w : World) (h : Ints w .u8 B A 8 zs) (hx : val zs = x) :
    Calls Try.prog 25 #[.slice A 8 c] w fun e w' => e = .returned (.int .u64 x) ∧ Below w.heap.size w w' := by
  rw [← hx]
  exact (rnumber_any B A c zs w h).mono fun _ _ ⟨h, e⟩ => ⟨h, e ▸ Below.refl _ _⟩

theorem rtake_off (A : Option Addr) (m c : Nat) (w : World) (hm : m ≤ 1099511627776) (h : m ≠ 32) :
    Calls Try.prog 11 #[.slice A m c] w fun e w' => e = .returned (.tuple #[.agg noneC, .int .i64 (if m < 32 then 3 else 4)]) ∧ Below w.heap.size w w' := by
  by_cases hlt : m < 32
  · have hlt' : (m : Int) < 32 := by omega
    rw [if_pos hlt]
    go_enter Try.func11, Try.ntmps11
    go_wp2_with (first
      | (refine wpList_alloc_blk (w := w) rfl 23 rfl _ zero_rec ?_; intro w1 q1 g1 z1)
      | (refine wpList_build_blk rfl 23 _ rfl noneC (by kernel_rfl) ?_)
      | (refine wpList_store_blk (w := w1) rfl 23 _ _ rfl w.heap.size 4 rfl 23 _ noneC rfl q1 info_rec rfl rfl (by kernel_rfl) ?_; intro w2 q2 g2 z2))
    exact bodyPost_ret (results_blk_tmp rfl _ _ w.heap.size 4 _ _ _ rfl rfl q2 _ Try.underlying23 rfl info_rec rfl) rfl ⟨rfl, ((Below.refl _ w).grown g1 (Nat.le_refl _) (by simp)).grown g2 g1.size (fun r e => by cases e; exact Nat.le_refl _)⟩
  · have hlt' : ¬ (m : Int) < 32 := by omega
    have hgt : (32 : Int) < (m : Int) := by omega
    rw [if_neg hlt]
    go_enter Try.func11, Try.ntmps11
    go_wp2_with (first
      | (refine wpList_alloc_blk (w := w) rfl 23 rfl _ zero_rec ?_; intro w1 q1 g1 z1)
      | (refine wpList_build_blk rfl 23 _ rfl noneC (by kernel_rfl) ?_)
      | (refine wpList_store_blk (w := w1) rfl 23 _ _ rfl w.heap.size 4 rfl 23 _ noneC rfl q1 info_rec rfl rfl (by kernel_rfl) ?_; intro w2 q2 g2 z2))
    exact bodyPost_ret (results_blk_tmp rfl _ _ w.heap.size 4 _ _ _ rfl rfl q2 _ Try.underlying23 rfl info_rec rfl) rfl ⟨rfl, ((Below.refl _ w).grown g1 (Nat.le_refl _) (by simp)).grown g2 g1.size (fun r e => by cases e; exact Nat.le_refl _)⟩

set_option maxRecDepth 100000 in
set_option maxHeartbeats 4000000 in
theorem rtake_at (B : Nat) (b off c : Nat) (zs : List Int) (w : World) (h : Ints w .u8 B (some ⟨b, off, none⟩) 32 zs) (hb : b < B) (hB : B ≤ w.heap.size) (hc : 32 ≤ c) :
    Calls Try.prog 11 #[.slice (some ⟨b, off, none⟩) 32 c] w fun e w' => e = .returned (.tuple #[.agg (takenC zs), .int .i64 (takenE zs)]) ∧ Below w.heap.size w w' := by
  have i0 : Ints w .u8 B (some ⟨b, off, none⟩) 8 (zs.take 8) := h.front (by omega)
  have i1 : Ints w .u8 B (some ⟨b, off + 8, none⟩) 8 ((zs.drop 8).take 8) := ints_word h (x := 1) (by omega)
  have i2 : Ints w .u8 B (some ⟨b, off + 16, none⟩) 8 ((zs.drop 16).take 8) := ints_word h (x := 2) (by omega)
  obtain ⟨A3, hA3, _, i3⟩ := run_back (P := Try.prog) Try.underlying24 size_u8 (Flat.head b off c) hc (l := 24) (by omega) h
  have hA3 : ∀ w, (Instr.sliceAt 24 (.slice (some ⟨b, off, none⟩) 32 c) (some (.int .i64 24)) none none).run Try.prog w = .ok (.slice A3 8 (c - 24)) w := hA3
  have i3 : Ints w .u8 B A3 8 (zs.drop 24) := i3
  have HC := Lib.hid (show takenC zs = if may (fld zs 0) (fld zs 1) (fld zs 2) (fld zs 3) = true then recC (fld zs 0) (fld zs 1) (fld zs 2) (fld zs 3) else noneC by
    unfold takenC mayB
    rw [h.1]
    simp)
  have HE := Lib.hid (show takenE zs = if may (fld zs 0) (fld zs 1) (fld zs 2) (fld zs 3) = true then 0 else 4 by
    unfold takenE mayB
    rw [h.1]
    simp)
  have HN0 := Lib.hid (show val (zs.take 8) = fld zs 0 by unfold fld; rw [Nat.mul_zero, List.drop_zero])
  have HN1 := Lib.hid (show val ((zs.drop 8).take 8) = fld zs 1 from rfl)
  have HN2 := Lib.hid (show val ((zs.drop 16).take 8) = fld zs 2 from rfl)
  have HN3 := Lib.hid (show val (zs.drop 24) = fld zs 3 by unfold fld; rw [List.take_of_length_le (by rw [List.length_drop, h.1]; omega)])
  have hw0 := wf_u64 (fld_wf (bs_of h.2.1) 0)
  generalize fld zs 0 = n0 at *
  generalize fld zs 1 = n1 at *
  generalize fld zs 2 = n2 at *
  generalize fld zs 3 = n3 at *
  clear h
  go_enter Try.func11, Try.ntmps11
  go_wp2_with (refine wpList_alloc_blk (w := w) rfl 23 rfl _ zero_rec ?_; intro u1 q1 g1 z1)
  have bz : Below w.heap.size w u1 := (Below.refl _ w).grown g1 (Nat.le_refl _) (by simp)
  clear g1 z1
  refine wp_region_held (S := fun W => Below u1.heap.size u1 W) (by kernel_rfl) ?_
  change wpAnyH _ _ _ _ _ _ _ _ u1.drew
  have c0_0 := (Below.refl u1.heap.size u1).drew
  refine Held.take (v := .slice (some ⟨b, off, none⟩) 32 c) 0 (some 16) rfl rfl (by kernel_rfl) (by kernel_rfl) (by kernel_rfl) (fun _ _ _ h => h) rfl (Held.y_move rfl rfl) c0_0 ?_
  simp only [Act.put, List.setIfInBounds_toArray, List.set_cons_zero, List.set_cons_succ]
  refine Held.take (v := .slice (some ⟨b, off, none⟩) 8 c) 1 (some 17) rfl rfl (by kernel_rfl) (by kernel_rfl) (by kernel_rfl) (fun _ _ _ h => h) rfl (Held.y_slice rfl (fun W => run_front (P := Try.prog) Try.underlying24 size_u8 (Flat.head b off c) (h := 8) (by omega) W)) c0_0 ?_
  simp only [Act.put, List.setIfInBounds_toArray, List.set_cons_zero, List.set_cons_succ]
  refine Held.take (v := .slice (some ⟨b, off, none⟩) 32 c) 3 (some 19) rfl rfl (by kernel_rfl) (by kernel_rfl) (by kernel_rfl) (fun _ _ _ h => h) rfl (Held.y_move rfl rfl) c0_0 ?_
  simp only [Act.put, List.setIfInBounds_toArray, List.set_cons_zero, List.set_cons_succ]
  refine Held.take (v := .slice (some ⟨b, off + 8, none⟩) 8 (c - 8)) 4 (some 20) rfl rfl (by kernel_rfl) (by kernel_rfl) (by kernel_rfl) (fun _ _ _ h => h) rfl (Held.y_slice rfl (fun W => run_midO (P := Try.prog) Try.underlying24 size_u8 b off 32 (cap := c) (l := 8) (h := 16) (by omega) (by omega) (by omega) W)) c0_0 ?_
  simp only [Act.put, List.setIfInBounds_toArray, List.set_cons_zero, List.set_cons_succ]
  refine Held.one 2 (by kernel_rfl) ?_
  refine Held.op_call 2 (some 18) 25 #[.slice (some ⟨b, off, none⟩) 8 c] rfl rfl rfl rfl (enters_of Try.func25 (by kernel_rfl) rfl) (by simp [Act.eval])
    (rnum_b B _ _ _ n0 _ (i0.below ((bz.trans (c0_0.mono bz.size)).mono hB)) HN0.out) ?_
  rintro e w1 ⟨rfl, b1⟩
  have c0_1 := c0_0.trans (b1.mono c0_0.size)
  refine ⟨_, rfl, c0_1, ?_⟩
  simp only [Act.put, List.setIfInBounds_toArray, List.set_cons_zero, List.set_cons_succ]
  refine Held.one 5 (by kernel_rfl) ?_
  refine Held.op_call 5 (some 21) 25 #[.slice (some ⟨b, off + 8, none⟩) 8 (c - 8)] rfl rfl rfl rfl (enters_of Try.func25 (by kernel_rfl) rfl) (by simp [Act.eval])
    (rnum_b B _ _ _ n1 _ (i1.below ((bz.trans (c0_1.mono bz.size)).mono hB)) HN1.out) ?_
  rintro e w2 ⟨rfl, b2⟩
  have c0_2 := c0_1.trans (b2.mono c0_1.size)
  refine ⟨_, rfl, c0_2, ?_⟩
  simp only [Act.put, List.setIfInBounds_toArray, List.set_cons_zero, List.set_cons_succ]
  refine Held.take (v := .int .u64 n0) 6 (some 4) rfl rfl (by kernel_rfl) (by kernel_rfl) (by kernel_rfl) (fun _ _ _ h => h) rfl (Held.y_assign rfl rfl) c0_2 ?_
  simp only [Act.put, List.setIfInBounds_toArray, List.set_cons_zero, List.set_cons_succ]
  refine Held.take (v := .int .u64 n1) 7 (some 5) rfl rfl (by kernel_rfl) (by kernel_rfl) (by kernel_rfl) (fun _ _ _ h => h) rfl (Held.y_assign rfl rfl) c0_2 ?_
  simp only [Act.put, List.setIfInBounds_toArray, List.set_cons_zero, List.set_cons_succ]
  refine wpAnyH_done (by kernel_rfl) ?_ _
  have bz2 := bz.trans (c0_2.mono bz.size)
  have qz := q1.after c0_2
  generalize w2 = v1 at bz2 qz ⊢
  go_wp2_with fail
  refine wp_region_held (S := fun W => Below v1.heap.size v1 W) (by kernel_rfl) ?_
  change wpAnyH _ _ _ _ _ _ _ _ v1.drew
  have c0_0 := (Below.refl v1.heap.size v1).drew
  refine Held.take (v := .slice (some ⟨b, off, none⟩) 32 c) 0 (some 22) rfl rfl (by kernel_rfl) (by kernel_rfl) (by kernel_rfl) (fun _ _ _ h => h) rfl (Held.y_move rfl rfl) c0_0 ?_
  simp only [Act.put, List.setIfInBounds_toArray, List.set_cons_zero, List.set_cons_succ]
  refine Held.take (v := .slice (some ⟨b, off + 16, none⟩) 8 (c - 16)) 1 (some 23) rfl rfl (by kernel_rfl) (by kernel_rfl) (by kernel_rfl) (fun _ _ _ h => h) rfl (Held.y_slice rfl (fun W => run_midO (P := Try.prog) Try.underlying24 size_u8 b off 32 (cap := c) (l := 16) (h := 24) (by omega) (by omega) (by omega) W)) c0_0 ?_
  simp only [Act.put, List.setIfInBounds_toArray, List.set_cons_zero, List.set_cons_succ]
  refine Held.take (v := .slice (some ⟨b, off, none⟩) 32 c) 3 (some 25) rfl rfl (by kernel_rfl) (by kernel_rfl) (by kernel_rfl) (fun _ _ _ h => h) rfl (Held.y_move rfl rfl) c0_0 ?_
  simp only [Act.put, List.setIfInBounds_toArray, List.set_cons_zero, List.set_cons_succ]
  refine Held.take (v := .slice A3 8 (c - 24)) 4 (some 26) rfl rfl (by kernel_rfl) (by kernel_rfl) (by kernel_rfl) (fun _ _ _ h => h) rfl (Held.y_slice rfl (fun W => hA3 W)) c0_0 ?_
  simp only [Act.put, List.setIfInBounds_toArray, List.set_cons_zero, List.set_cons_succ]
  refine Held.one 2 (by kernel_rfl) ?_
  refine Held.op_call 2 (some 24) 25 #[.slice (some ⟨b, off + 16, none⟩) 8 (c - 16)] rfl rfl rfl rfl (enters_of Try.func25 (by kernel_rfl) rfl) (by simp [Act.eval])
    (rnum_b B _ _ _ n2 _ (i2.below ((bz2.trans (c0_0.mono bz2.size)).mono hB)) HN2.out) ?_
  rintro e w1 ⟨rfl, b1⟩
  have c0_1 := c0_0.trans (b1.mono c0_0.size)
  refine ⟨_, rfl, c0_1, ?_⟩
  simp only [Act.put, List.setIfInBounds_toArray, List.set_cons_zero, List.set_cons_succ]
  refine Held.one 5 (by kernel_rfl) ?_
  refine Held.op_call 5 (some 27) 25 #[.slice A3 8 (c - 24)] rfl rfl rfl rfl (enters_of Try.func25 (by kernel_rfl) rfl) (by simp [Act.eval])
    (rnum_b B _ _ _ n3 _ (i3.below ((bz2.trans (c0_1.mono bz2.size)).mono hB)) HN3.out) ?_
  rintro e w2 ⟨rfl, b2⟩
  have c0_2 := c0_1.trans (b2.mono c0_1.size)
  refine ⟨_, rfl, c0_2, ?_⟩
  simp only [Act.put, List.setIfInBounds_toArray, List.set_cons_zero, List.set_cons_succ]
  refine Held.take (v := .int .u64 n2) 6 (some 6) rfl rfl (by kernel_rfl) (by kernel_rfl) (by kernel_rfl) (fun _ _ _ h => h) rfl (Held.y_assign rfl rfl) c0_2 ?_
  simp only [Act.put, List.setIfInBounds_toArray, List.set_cons_zero, List.set_cons_succ]
  refine Held.take (v := .int .u64 n3) 7 (some 7) rfl rfl (by kernel_rfl) (by kernel_rfl) (by kernel_rfl) (fun _ _ _ h => h) rfl (Held.y_assign rfl rfl) c0_2 ?_
  simp only [Act.put, List.setIfInBounds_toArray, List.set_cons_zero, List.set_cons_succ]
  refine wpAnyH_done (by kernel_rfl) ?_ _
  have bz3 := bz2.trans (c0_2.mono bz2.size)
  have qy := qz.after c0_2
  generalize w2 = v2 at bz3 qy ⊢
  clear i0 i1 i2 i3 hA3 HN0 HN1 HN2 HN3 bz bz2 q1 qz
  rcases (show n0 = 0 ∨ n0 = 1 ∨ 1 < n0 by omega) with rfl | rfl | hgt
  · have hmay : may 0 n1 n2 n3 = true := rfl
    rw [hmay] at HC HE
    clear hw0
    · go_wp2_with (first
        | (refine wpList_build_blk rfl 23 _ rfl (recC 0 n1 n2 n3) (by kernel_rfl) ?_)
        | (refine wpList_store_blk (w := v2) rfl 23 _ _ rfl w.heap.size 4 rfl 23 _ (recC 0 n1 n2 n3) rfl qy info_rec rfl rfl (by kernel_rfl) ?_; intro w3 q3 g3 z3))
      exact bodyPost_ret (results_blk_tmp rfl _ _ w.heap.size 4 _ _ _ rfl rfl q3 _ Try.underlying23 rfl info_rec rfl) rfl ⟨by rw [HC.out, HE.out]; rfl, bz3.grown g3 bz3.size (fun r e => by cases e; exact Nat.le_refl _)⟩
  · by_cases h1 : n1 = 0
    · subst h1
      by_cases h2 : n2 = 0
      · subst h2
        by_cases h3 : n3 = 0
        · subst h3
          have hmay : may 1 0 0 0 = true := rfl
          rw [hmay] at HC HE
          clear hw0
          go_wp2_with (first
            | (refine wpList_build_blk rfl 23 _ rfl (recC 1 0 0 0) (by kernel_rfl) ?_)
            | (refine wpList_store_blk (w := v2) rfl 23 _ _ rfl w.heap.size 4 rfl 23 _ (recC 1 0 0 0) rfl qy info_rec rfl rfl (by kernel_rfl) ?_; intro w3 q3 g3 z3))
          exact bodyPost_ret (results_blk_tmp rfl _ _ w.heap.size 4 _ _ _ rfl rfl q3 _ Try.underlying23 rfl info_rec rfl) rfl ⟨by rw [HC.out, HE.out]; rfl, bz3.grown g3 bz3.size (fun r e => by cases e; exact Nat.le_refl _)⟩
        · have hmay : may 1 0 0 n3 = false := by simp [may, h3]
          rw [hmay] at HC HE
          have h3' : (n3 != 0) = true := by simpa using h3
          clear hw0
          go_wp2_with (first
            | (refine wpList_build_blk rfl 23 _ rfl noneC (by kernel_rfl) ?_)
            | (refine wpList_store_blk (w := v2) rfl 23 _ _ rfl w.heap.size 4 rfl 23 _ noneC rfl qy info_rec rfl rfl (by kernel_rfl) ?_; intro w3 q3 g3 z3))
          exact bodyPost_ret (results_blk_tmp rfl _ _ w.heap.size 4 _ _ _ rfl rfl q3 _ Try.underlying23 rfl info_rec rfl) rfl ⟨by rw [HC.out, HE.out]; rfl, bz3.grown g3 bz3.size (fun r e => by cases e; exact Nat.le_refl _)⟩
      · have hmay : may 1 0 n2 n3 = false := by simp [may, h2]
        rw [hmay] at HC HE
        have h2' : (n2 != 0) = true := by simpa using h2
        clear hw0
        go_wp2_with (first
          | (refine wpList_build_blk rfl 23 _ rfl noneC (by kernel_rfl) ?_)
          | (refine wpList_store_blk (w := v2) rfl 23 _ _ rfl w.heap.size 4 rfl 23 _ noneC rfl qy info_rec rfl rfl (by kernel_rfl) ?_; intro w3 q3 g3 z3))
        exact bodyPost_ret (results_blk_tmp rfl _ _ w.heap.size 4 _ _ _ rfl rfl q3 _ Try.underlying23 rfl info_rec rfl) rfl ⟨by rw [HC.out, HE.out]; rfl, bz3.grown g3 bz3.size (fun r e => by cases e; exact Nat.le_refl _)⟩
    · have hmay : may 1 n1 n2 n3 = false := by simp [may, h1]
      rw [hmay] at HC HE
      have h1' : (n1 != 0) = true := by simpa using h1
      clear hw0
      go_wp2_with (first
        | (refine wpList_build_blk rfl 23 _ rfl noneC (by kernel_rfl) ?_)
        | (refine wpList_store_blk (w := v2) rfl 23 _ _ rfl w.heap.size 4 rfl 23 _ noneC rfl qy info_rec rfl rfl (by kernel_rfl) ?_; intro w3 q3 g3 z3))
      exact bodyPost_ret (results_blk_tmp rfl _ _ w.heap.size 4 _ _ _ rfl rfl q3 _ Try.underlying23 rfl info_rec rfl) rfl ⟨by rw [HC.out, HE.out]; rfl, bz3.grown g3 bz3.size (fun r e => by cases e; exact Nat.le_refl _)⟩
  · have hmay : may n0 n1 n2 n3 = false := by
      have h0 : n0 ≠ 0 := by omega
      have h1 : n0 ≠ 1 := by omega
      simp [may, h0, h1]
    rw [hmay] at HC HE
    clear hw0
    · go_wp2_with (first
        | (refine wpList_build_blk rfl 23 _ rfl noneC (by kernel_rfl) ?_)
        | (refine wpList_store_blk (w := v2) rfl 23 _ _ rfl w.heap.size 4 rfl 23 _ noneC rfl qy info_rec rfl rfl (by kernel_rfl) ?_; intro w3 q3 g3 z3))
      exact bodyPost_ret (results_blk_tmp rfl _ _ w.heap.size 4 _ _ _ rfl rfl q3 _ Try.underlying23 rfl info_rec rfl) rfl ⟨by rw [HC.out, HE.out]; rfl, bz3.grown g3 bz3.size (fun r e => by cases e; exact Nat.le_refl _)⟩

theorem rtake_any (B : Nat) (A : Option Addr) (m c : Nat) (zs : List Int) (w : World) (h : Ints w .u8 B A m zs) (hB : B ≤ w.heap.size) (hc : m ≤ c) (hm' : m ≤ 1099511627776) :
    Calls Try.prog 11 #[.slice A m c] w fun e w' => e = .returned (.tuple #[.agg (takenC zs), .int .i64 (takenE zs)]) ∧ Below w.heap.size w w' := by
  by_cases hm : m = 32
  · subst hm
    obtain ⟨b, off, rfl, hb, _⟩ := h.2.2 (by omega)
    exact rtake_at B b off c zs w h hb hB hc
  · have e1 : takenC zs = noneC := by
      unfold takenC
      rw [if_neg (by rw [h.1]; omega)]
    have e2 : takenE zs = if m < 32 then 3 else 4 := by
      unfold takenE
      rw [h.1]
      split
      · rfl
      · rw [if_neg (by omega)]
    rw [e1, e2]
    exact rtake_off A m c w hm' hm

set_option maxRecDepth 100000 in
set_option maxHeartbeats 4000000 in
theorem awake9_any (w : World) : Calls Try.prog 8 #[] w fun e w' => e = .returned (.bool true) ∧ Below w.heap.size w w' := by
  go_enter Try.func8, Try.ntmps8
  go_wp2_with (refine wpList_build_blk rfl 23 _ rfl #[.bool false, .int .i64 1, .int .i64 0, .int .i64 0] (by kernel_rfl) ?_)
  refine (dead_any _).mono ?_
  rintro e w1 ⟨rfl, b1⟩
  go_wp2_with fail
  refine (before_any false 1 0 0 true 0 0 0 rfl rfl rfl rfl _).mono ?_
  rintro e w2 ⟨rfl, b2⟩
  have d2 := b1.trans (b2.mono b1.size)
  rw [show oneI (bef false 1 0 true 0 0) = 1 from rfl]
  go_wp2_with fail
  refine (dead_any _).mono ?_
  rintro e w3 ⟨rfl, b3⟩
  have d3 := d2.trans (b3.mono d2.size)
  go_wp2_with (refine wpList_run rfl (v := .bool true) (Held.y_fieldv (S := fun _ => True) (k := 0) rfl rfl Try.underlying23 rfl (by kernel_rfl) rfl _ trivial) ?_)
  go_ret
  exact ⟨rfl, d3⟩

end Go.Proofs.Ytdfnacnklmmjhaa.Rc

