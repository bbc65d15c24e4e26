/-
  Package record's Take, by its contract. Conditions: bytes that read as a list, at most 2^40 of them.
-/
import Derived.Test.YtdfnacnklmmjhaaRc5
namespace Go.Proofs.Ytdfnacnklmmjhaa.Rc
open Go.RowKit Go.Shelf Go.Proofs.Ytdfnacnklmmjhaa.Mem Go.Proofs.Ytdfnacnklmmjhaa.Help Go.Proofs.Ytdfnacnklmmjhaa.Sum Go.Proofs.Ytdfnacnklmmjhaa.Po Go.Proofs.Ytdfnacnklmmjhaa.Ky Go.Proofs.Ytdfnacnklmmjhaa.Ct Go.Proofs.Ytdfnacnklmmjhaa.Bit Go.Proofs.Ytdfnacnklmmjhaa.Held Go.Proofs.Ytdfnacnklmmjhaa.Range Go.Proofs.Ytdfnacnklmmjhaa
set_option linter.unusedVariables false
attribute [local go_sem] Oper.semAt_some
attribute [local irreducible] wpList wpListIn Calls

/-- the number of a word -/
def fld (zs : List Int) (i : Nat) : Int := val ((zs.drop (8 * i)).take 8)
/-- the record that four numbers are -/
def recC (n0 n1 n2 n3 : Int) : Array Value := #[.bool (n0 == 1), .int .i64 (wrap64 n1), .int .i64 (wrap64 n2), .int .i64 (wrap64 n3)]
def noneC : Array Value := #[.bool false, .int .i64 0, .int .i64 0, .int .i64 0]
/-- what bytes are taken as -/
def mayB (zs : List Int) : Bool := may (fld zs 0) (fld zs 1) (fld zs 2) (fld zs 3)
def takenC (zs : List Int) : Array Value := if zs.length = 32 ∧ mayB zs = true then recC (fld zs 0) (fld zs 1) (fld zs 2) (fld zs 3) else noneC
def takenE (zs : List Int) : Int := if zs.length < 32 then 3 else if zs.length = 32 ∧ mayB zs = true then 0 else 4
theorem takenC_size (zs : List Int) : (takenC zs).size = 4 := by
  unfold takenC
  split <;> rfl
theorem takenC_one (zs : List Int) : (takenC zs).all (·.oneCell') = true := by
  unfold takenC
  split <;> kernel_rfl
theorem fld_wf {zs : List Int} (h : Bs zs) (i : Nat) : (Lit.int .u64 (fld zs i)).wf = true := by
  have hb : Bs ((zs.drop (8 * i)).take 8) := fun z hz => h z (List.mem_of_mem_drop (List.mem_of_mem_take hz))
  have h0 := val_nonneg (xs := (zs.drop (8 * i)).take 8) fun z hz => (hb z hz).1
  have h1 := val_lt hb
  have hl : ((zs.drop (8 * i)).take 8).length ≤ 8 := by rw [List.length_take]; omega
  unfold fld
  generalize val ((zs.drop (8 * i)).take 8) = v at *
  generalize ((zs.drop (8 * i)).take 8).length = n at *
  refine wf_64 ?_
  rcases (show n = 0 ∨ n = 1 ∨ n = 2 ∨ n = 3 ∨ n = 4 ∨ n = 5 ∨ n = 6 ∨ n = 7 ∨ n = 8 by omega) with rfl | rfl | rfl | rfl | rfl | rfl | rfl | rfl | rfl <;> omega
def flds (zs : List Int) : List Int := [fld zs 0, fld zs 1, fld zs 2, fld zs 3]
theorem flds_at (zs : List Int) {i : Nat} (h : i < 4) : (flds zs).getD i 0 = fld zs i := by
  match i, h with
  | 0, _ => rfl
  | 1, _ => rfl
  | 2, _ => rfl
  | 3, _ => rfl
theorem flds_wf {zs : List Int} (h : Bs zs) : ∀ z ∈ flds zs, (Lit.int .u64 z).wf = true := fun z hz => by
  simp only [flds, List.mem_cons, List.not_mem_nil, or_false] at hz
  rcases hz with rfl | rfl | rfl | rfl <;> exact fld_wf h _

set_option maxRecDepth 100000 in
set_option maxHeartbeats 4000000 in
theorem take_off (A : Option Addr) (m c : Nat) (w : World) (hm : m ≤ 1099511627776) (h : m ≠ 32) :
    Calls Try.prog 10 #[.slice A m c] w fun e w' => e = .returned (.tuple #[.agg noneC, .int .i64 (if m < 32 then 3 else 4)]) ∧ Below w.heap.size w w' := by
  by_cases hlt : m < 32
  · have hlt' : (m : Int) < 32 := by omega
    rw [if_pos hlt]
    go_enter Try.func10, Try.ntmps10
    go_wp2_with (first
      | (refine wpList_alloc_blk (w := w) rfl 23 rfl _ zero_rec ?_; intro w1 q1 g1 z1)
      | (refine wpList_build_blk rfl 23 _ rfl noneC (by kernel_rfl) ?_)
      | (refine wpList_store_blk (w := w1) rfl 23 _ _ rfl w.heap.size 4 rfl 23 _ noneC rfl q1 info_rec rfl rfl (by kernel_rfl) ?_; intro w2 q2 g2 z2))
    exact bodyPost_ret (results_blk_tmp rfl _ _ w.heap.size 4 _ _ _ rfl rfl q2 _ Try.underlying23 rfl info_rec rfl) rfl ⟨rfl, ((Below.refl _ w).grown g1 (Nat.le_refl _) (by simp)).grown g2 g1.size (fun r e => by cases e; exact Nat.le_refl _)⟩
  · have hlt' : ¬ (m : Int) < 32 := by omega
    have hgt : (32 : Int) < (m : Int) := by omega
    rw [if_neg hlt]
    go_enter Try.func10, Try.ntmps10
    go_wp2_with (first
      | (refine wpList_alloc_blk (w := w) rfl 23 rfl _ zero_rec ?_; intro w1 q1 g1 z1)
      | (refine wpList_build_blk rfl 23 _ rfl noneC (by kernel_rfl) ?_)
      | (refine wpList_store_blk (w := w1) rfl 23 _ _ rfl w.heap.size 4 rfl 23 _ noneC rfl q1 info_rec rfl rfl (by kernel_rfl) ?_; intro w2 q2 g2 z2))
    exact bodyPost_ret (results_blk_tmp rfl _ _ w.heap.size 4 _ _ _ rfl rfl q2 _ Try.underlying23 rfl info_rec rfl) rfl ⟨rfl, ((Below.refl _ w).grown g1 (Nat.le_refl _) (by simp)).grown g2 g1.size (fun r e => by cases e; exact Nat.le_refl _)⟩

/-- what a round of Take keeps -/
def TInv (w : World) (gr gn : Nat) (zs : List Int) (pre : List Nat) (W : World) : Prop :=
  Row W gn 43 .u64 (blend (flds zs) (List.replicate 4 0) pre.length) ∧ Blk W gr 23 noneC ∧ Below w.heap.size w W
theorem TInv.own (w : World) (gr gn : Nat) (zs : List Int) {B : Nat} (hB : w.heap.size ≤ B) : OwnFrom B (TInv w gr gn zs) := fun pre W W' row ⟨h1, h2, h4⟩ hg hr =>
  ⟨row_own h1 hg hr, blk_own h2 hg hr, h4.grown hg h4.size (fun r e => Nat.le_trans hB (hr r e).1)⟩
set_option maxRecDepth 100000 in
set_option maxHeartbeats 2000000 in
theorem take_at (B : Nat) (b off c : Nat) (zs : List Int) (w : World) (h : Ints w .u8 B (some ⟨b, off, none⟩) 32 zs) (hb : b < B) (hB : B ≤ w.heap.size) (hc : 32 ≤ c) (hc' : c ≤ 1099511627776) :
    Calls Try.prog 10 #[.slice (some ⟨b, off, none⟩) 32 c] w fun e w' => e = .returned (.tuple #[.agg (takenC zs), .int .i64 (takenE zs)]) ∧ Below w.heap.size w w' := by
  have HL := Lib.hid h.1
  have hbs := bs_of h.2.1
  have HW := Lib.hid (flds_wf hbs)
  refine (callsIn_wide (n := 3)).1 ?_
  refine callsIn_of_wp_marks Try.func10 rfl trivial ?_ rfl
  simp only [Try.ntmps10, List.size_toArray, List.length_cons, List.length_nil, Nat.reduceAdd, Nat.reduceSub, Array.replicate_succ, Array.replicate_zero, List.push_toArray, List.append_toArray, List.nil_append, List.cons_append]
  refine wpIn_wide.2 ?_
  go_wp2_with (first
    | (refine wpList_alloc_blk (w := w) rfl 23 rfl _ zero_rec ?_; intro u1 q1 g1 z1)
    | (refine wpList_alloc_Row (w := u1) rfl 43 rfl .u64 4 zero_row ?_; intro u2 r2 g2 z2))
  have bz : Below w.heap.size w u2 := ((Below.refl _ w).grown g1 (Nat.le_refl _) (by simp)).grown g2 g1.size (by simp)
  have q1 : Blk u1 w.heap.size 23 noneC := q1
  have hlt1 : w.heap.size < u1.heap.size := q1.lt
  have q1 := q1.grown g2 (by simp)
  clear g1 g2 z1 z2
  have rl0 := r2.lt
  go_wp2_with fail
  refine (words_any (some ⟨b, off, none⟩) 32 c u2).mono ?_
  rintro e v2 ⟨bx, rfl, qx, hbx, bw⟩
  have q1 := q1.after bw
  have r2 := r2.below bw r2.lt
  have bz := bz.trans (bw.mono bz.size)
  have lt1 := q1.lt
  have lt2 := r2.lt
  have hxn : bx ≠ u1.heap.size := fun e => by subst e; exact absurd (Nat.lt_of_lt_of_le rl0 hbx) (Nat.lt_irrefl _)
  have hit := fun N => words_give N bx (fun b => b = u1.heap.size) b off 32 c v2 (qx.cell rfl) hxn hc hc'
  have hF : (flds zs).length = (List.replicate 4 (0 : Int)).length := by simp [flds]
  have h2 := h.below (bz.mono hB)
  have hbn : b ≠ u1.heap.size := by omega
  clear bw
  go_wp2_with fail
  refine (wpIn_wide (n := 3)).1 ?_
  refine wpIn_rangeFunc_give rfl (by omega) (gf := 36) (lb := #[.pointer (some ⟨bx, 0, none⟩)]) rfl trivial (enters_of Try.func36 (by kernel_rfl) rfl)
    (hit _) (fun h k => h.trans k) (fun W l o o' hl ho hc _ => Only.put W l o o' ho hc) (Below.refl _ _) (fun x B W args hx => by cases hx; rfl)
    (TInv w w.heap.size u1.heap.size zs) (TInv.own w _ _ zs bz.size) ⟨by rw [List.length_nil, blend_zero]; exact r2, q1, bz⟩
    (fun x a' pre W => TInv w w.heap.size u1.heap.size zs pre W ∧ a' = { tmps := #[.slice (some ⟨b, off, none⟩) 32 c, undef, .pointer (some ⟨w.heap.size, 0, none⟩), .int .i64 0, .pointer (some ⟨u1.heap.size, 0, none⟩), .int .i64 (x : Int), .slice (some ⟨b, off + 8 * x, none⟩) 8 (c - 8 * x), .slice (some ⟨b, off, none⟩) 32 c, .int .i64 32, .bool false, undef, .slice (some ⟨b, off, none⟩) 32 c, .int .i64 32, .bool false, undef, .slice (some ⟨b, off, none⟩) 32 c, .func (.func 36) #[] #[.pointer (some ⟨bx, 0, none⟩)], .int .i64 (x : Int), .slice (some ⟨b, off + 8 * x, none⟩) 8 (c - 8 * x), undef, undef, undef, undef, undef, undef, undef, undef, undef, undef], defers := [] }) ?ib ?assign ?body ?done
  case ib =>
    rintro x a' pre W W' row ⟨hv, h7⟩ hgr hr
    exact ⟨TInv.own w _ _ zs bz.size pre W W' row hv hgr hr, h7⟩
  case assign =>
    rintro l pre x args W0 W K hv hg rfl hp hsz hK
    simp only [Held.zip_two, List.setIfInBounds_toArray, List.set_cons_zero, List.set_cons_succ]
    gi_wp2_with fail
    exact hK _ _ (KeepsOthers.refl _) (Only.refl _ _) ⟨TInv.own w _ _ zs bz.size pre W0 W none hv hg (fun r e => by cases e), rfl⟩
  case body =>
    rintro l pre x a' W ⟨⟨i1, i2, i4⟩, rfl⟩ hp hsz
    obtain ⟨hx, hx4⟩ := prefix_range hp
    have hx4 : x < 4 := hx4
    rw [← hx] at i1
    have hx4' : (x : Int) < 4 := by omega
    have hx0 : (0 : Int) ≤ (x : Int) := by omega
    have iw : Ints W .u8 B (some ⟨b, off + 8 * x, none⟩) 8 ((zs.drop (8 * x)).take 8) := by
      have hi := h.below (i4.mono hB)
      refine ⟨by rw [List.length_take, List.length_drop, HL.out]; omega, fun z hz => hi.2.1 z (List.mem_of_mem_drop (List.mem_of_mem_take hz)), fun _ => ⟨b, off + 8 * x, rfl, hb, fun i hi8 => ?_⟩⟩
      obtain ⟨b', off', e, _, hcc⟩ := hi.2.2 (by omega)
      injection e with e
      injection e with e1 e2
      subst e1
      subst e2
      rw [Nat.add_assoc, hcc (8 * x + i) (by omega)]
      simp [List.getD_eq_getElem?_getD, hi8]
    have HS := Lib.hid (show (blend (flds zs) (List.replicate 4 0) x).set x (fld zs x) = blend (flds zs) (List.replicate 4 0) (pre ++ [x]).length by
      have := blend_set hF (i := x) (by simpa using hx4)
      rw [flds_at zs hx4] at this
      rw [this, List.length_append, List.length_singleton, ← hx])
    have HBL := Lib.hid (show x < (blend (flds zs) (List.replicate 4 0) x).length by rw [blend_length hF]; simpa using hx4)
    have wz := fld_wf hbs x
    clear hx hp
    gi_wp2_with fail
    refine ⟨trivial, ?_⟩
    refine (CallsIn.inRound l (callsIn_wide.2 (number_any B (some ⟨b, off + 8 * x, none⟩) 8 (c - 8 * x) _ W iw (by omega)))).mono ?_
    rintro e W4 ⟨rfl, rfl⟩
    gi_wp2_with (refine wpListIn_store_elem (w := W) rfl 35 _ _ rfl u1.heap.size x rfl 43 .u64 _ (fld zs x) rfl i1 HBL.out size_u64 wz ?_; intro W5 r5 g5 z5; rw [HS.out] at r5)
    exact ⟨Held.others_of_grown i1.2 g5, Only.of_grown g5 (fun r e => by cases e; rfl), r5, i2.grown g5 (by intro e; injection e with e; omega), i4.grown g5 i4.size (fun r e => by cases e; omega)⟩
  case done =>
    rintro D W hD ⟨i1, i2, i4⟩ hDl
    have e4 : blend (flds zs) (List.replicate 4 0) (List.range (32 / 8)).length = [fld zs 0, fld zs 1, fld zs 2, fld zs 3] := blend_all hF
    rw [e4] at i1
    obtain ⟨bm, hbm⟩ : ∃ bm, may (fld zs 0) (fld zs 1) (fld zs 2) (fld zs 3) = bm := ⟨_, rfl⟩
    have hm := mayBe_any (fld zs 0) (fld zs 1) (fld zs 2) (fld zs 3) HW.out W
    rw [hbm] at hm
    have HC := Lib.hid (show takenC zs = if bm = true then recC (fld zs 0) (fld zs 1) (fld zs 2) (fld zs 3) else noneC by
      unfold takenC mayB
      rw [hbm, HL.out]
      simp)
    have HE := Lib.hid (show takenE zs = if bm = true then 0 else 4 by
      unfold takenE mayB
      rw [hbm, HL.out]
      simp)
    have hr := record_any (fld zs 0) (fld zs 1) (fld zs 2) (fld zs 3) HW.out
    clear hbm
    go_wp2_with (refine wpList_load_Row (w := W) rfl 43 _ rfl u1.heap.size rfl 43 .u64 _ i1 4 35 Try.underlying43 info_row rfl ?_)
    refine hm.mono ?_
    rintro e W2 ⟨rfl, b2⟩
    have i1 := i1.below b2 i1.lt
    have i2 := i2.after b2
    have d2 := (b2.block D (Array.getElem?_eq_some_iff.1 hDl).1).trans hDl
    have i4 := i4.trans (b2.mono i4.size)
    clear b2 hDl hm
    cases bm
    · have hone : oneI false = 0 := rfl
      rw [hone]
      go_wp2_with (first
        | (refine wpList_build_blk rfl 23 _ rfl noneC (by kernel_rfl) ?_)
        | (refine wpList_store_blk (w := W2) rfl 23 _ _ rfl w.heap.size 4 rfl 23 _ noneC rfl i2 info_rec rfl rfl (by kernel_rfl) ?_; intro W5 q5 g5 z5))
      have d5 := (g5.block D (Array.getElem?_eq_some_iff.1 d2).1 (by intro e; injection e with e; omega)).trans d2
      have b5 := i4.grown g5 i4.size (fun r e => by cases e; exact Nat.le_refl _)
      refine ⟨by simp, .inl ⟨_, _, rfl, run_takeDeferred d5, ?_⟩⟩
      have r9 : Blk (W5.putObj D (.deferred none)) w.heap.size 23 noneC := (World.putObj_heap_other (by omega)).trans q5
      exact ⟨_, results_blk_tmp rfl _ _ w.heap.size 4 _ _ _ rfl rfl r9 _ Try.underlying23 rfl info_rec rfl, by rw [HC.out, HE.out]; rfl, b5.grown (grownBy_putObj' _ D _) b5.size (fun r e => by cases e; omega)⟩
    · have hone : oneI true = 1 := rfl
      rw [hone]
      go_wp2_with (refine wpList_load_Row (w := W2) rfl 43 _ rfl u1.heap.size rfl 43 .u64 _ i1 4 35 Try.underlying43 info_row rfl ?_)
      refine (hr W2).mono ?_
      rintro e W3 ⟨rfl, b3⟩
      have i2 := i2.after b3
      have d3 := (b3.block D (Array.getElem?_eq_some_iff.1 d2).1).trans d2
      have i4 := i4.trans (b3.mono i4.size)
      clear b3 d2
      go_wp2_with (refine wpList_store_blk (w := W3) rfl 23 _ _ rfl w.heap.size 4 rfl 23 _ (recC (fld zs 0) (fld zs 1) (fld zs 2) (fld zs 3)) rfl i2 info_rec rfl rfl (by kernel_rfl) ?_; intro W5 q5 g5 z5)
      have d5 := (g5.block D (Array.getElem?_eq_some_iff.1 d3).1 (by intro e; injection e with e; omega)).trans d3
      have b5 := i4.grown g5 i4.size (fun r e => by cases e; exact Nat.le_refl _)
      refine ⟨by simp, .inl ⟨_, _, rfl, run_takeDeferred d5, ?_⟩⟩
      have r9 : Blk (W5.putObj D (.deferred none)) w.heap.size 23 (recC (fld zs 0) (fld zs 1) (fld zs 2) (fld zs 3)) := (World.putObj_heap_other (by omega)).trans q5
      exact ⟨_, results_blk_tmp rfl _ _ w.heap.size 4 _ _ _ rfl rfl r9 _ Try.underlying23 rfl info_rec rfl, by rw [HC.out, HE.out]; rfl, b5.grown (grownBy_putObj' _ D _) b5.size (fun r e => by cases e; omega)⟩

theorem take_any (B : Nat) (A : Option Addr) (m c : Nat) (zs : List Int) (w : World) (h : Ints w .u8 B A m zs) (hB : B ≤ w.heap.size) (hc : m ≤ c) (hc' : c ≤ 1099511627776) :
    Calls Try.prog 10 #[.slice A m c] w fun e w' => e = .returned (.tuple #[.agg (takenC zs), .int .i64 (takenE zs)]) ∧ Below w.heap.size w w' := by
  by_cases hm : m = 32
  · subst hm
    obtain ⟨b, off, rfl, hb, _⟩ := h.2.2 (by omega)
    exact take_at B b off c zs w h hb hB hc hc'
  · have e1 : takenC zs = noneC := by
      unfold takenC
      rw [if_neg (by rw [h.1]; omega)]
    have e2 : takenE zs = if m < 32 then 3 else 4 := by
      unfold takenE
      rw [h.1]
      split
      · rfl
      · rw [if_neg (by omega)]
    rw [e1, e2]
    exact take_off A m c w (by omega) hm
end Go.Proofs.Ytdfnacnklmmjhaa.Rc

