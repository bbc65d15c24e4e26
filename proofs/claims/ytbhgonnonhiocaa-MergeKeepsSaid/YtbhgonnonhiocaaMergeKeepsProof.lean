/-
  The law MergeKeeps of package dominolaw14 returns true whatever records come in, by either order: sorted they are sorted, sorted again they stay, and each of them is there as often as it was.
-/
import Derived.Test.YtbhgonnonhiocaaRows
import Derived.WalkKit
import Derived.ProofKit
import Derived.OpenShut
import Derived.ShutString
import Derived.ChangeOld
import Derived.Below
import Derived.Test.YtbhgonnonhiocaaB7
namespace Go.Proofs.Ytbhgonnonhiocaa.mergeKeeps
open Go.ChangeShapes Go.WideShapes Go.ChangeAt Go.RowKit
open Go.ChangeMaps (open_string shut_string)
open Go.Shelf Go.Proofs.Ytbhgonnonhiocaa Mem Held Ct Rc Rs Sl Mg
theorem own : ownKnob Try.prog.godebug = none := by kernel_rfl
theorem laidOut : laidOutB Try.prog = true := by kernel_rfl
attribute [local irreducible] wpList wpListIn Calls
def cntF (rs xs : List R) (i : Nat) (q : R) : Int := ((rs.take i).count q : Int) - ((xs.take i).count q : Int)
theorem cntF_bound (rs xs : List R) (i : Nat) (q : R) : -(i : Int) ≤ cntF rs xs i q ∧ cntF rs xs i q ≤ i := by
  unfold cntF
  have h1 := List.count_le_length (a := q) (l := rs.take i)
  have h2 := List.count_le_length (a := q) (l := xs.take i)
  rw [List.length_take] at h1 h2
  omega
theorem cntF_succ {rs xs : List R} {i : Nat} (h1 : i < rs.length) (h2 : i < xs.length) :
    upd (upd (cntF rs xs i) (rs.getD i R0) (cntF rs xs i (rs.getD i R0) + 1)) (xs.getD i R0) (upd (cntF rs xs i) (rs.getD i R0) (cntF rs xs i (rs.getD i R0) + 1) (xs.getD i R0) - 1) = cntF rs xs (i + 1) := by
  funext q
  have e : cntF rs xs (i + 1) q = cntF rs xs i q + (if rs.getD i R0 = q then 1 else 0) - (if xs.getD i R0 = q then 1 else 0) := by
    unfold cntF
    rw [take_snoc h1, take_snoc h2, List.count_append, List.count_append, List.count_singleton, List.count_singleton]
    simp only [beq_iff_eq]
    split <;> split <;> omega
  rw [e]
  unfold upd
  by_cases e1 : q = xs.getD i R0
  · rw [if_pos e1, if_pos (c := xs.getD i R0 = q) e1.symm]
    by_cases e2 : xs.getD i R0 = rs.getD i R0
    · rw [if_pos e2, if_pos (by rw [e1]; exact e2.symm), ← e2, ← e1]
    · rw [if_neg e2, if_neg (by rw [e1]; exact fun h => e2 h.symm), ← e1]; omega
  · rw [if_neg e1, if_neg (c := xs.getD i R0 = q) (fun h => e1 h.symm)]
    by_cases e2 : q = rs.getD i R0
    · rw [if_pos e2, if_pos e2.symm, ← e2]; omega
    · rw [if_neg e2, if_neg (fun h => e2 h.symm)]; omega
theorem cntF_end {rs xs : List R} (hp : xs.Perm rs) (q : R) : cntF rs xs rs.length q = 0 := by
  unfold cntF
  rw [List.take_of_length_le (Nat.le_refl _), List.take_of_length_le (by rw [hp.length_eq]; exact Nat.le_refl _), hp.count_eq]
  omega
theorem wpList_ran {P : Program} {ops : Array Oper} {rest : List Oper} {o : Oper} {a : Act} {w w' : World} {Q : Exit → Act → World → Prop} (hw : Region.wanted o (yielded ops a.tmps) = true) {v : Value} (hr : (execOp a.eval o).run P w = .ok (.value v) w')
    (h : wpList P ops Q rest (a.put o.dst v) w') : wpList P ops Q (o :: rest) a w := by
  refine wpList_step fun _ hK => ?_
  rw [if_pos hw]
  unfold Oper.wp
  rw [hr]
  exact hK _ _ h
theorem run_next_op {P : Program} {ρ : Operand → Value} {o : Oper} {w w' : World} {it : Operand} {x v : Value} (ho : o.op = .next it false) (hx : ρ it = x) (hr : (Instr.next x false o.type).run P w = .ok v w') : (execOp ρ o).run P w = .ok (.value v) w' := by
  simp [execOp, ho, hx, hr, Result.andThen]
theorem run_entry_op {P : Program} {ρ : Operand → Value} {o : Oper} {w w' : World} {it : Operand} {x v : Value} (ho : o.op = .entry it) (hx : ρ it = x) (hr : (Instr.entry x).run P w = .ok v w') : (execOp ρ o).run P w = .ok (.value v) w' := by
  simp [execOp, ho, hx, hr, Result.andThen]
set_option maxRecDepth 100000 in
set_option maxHeartbeats 16000000 in
theorem start (A : Option Addr) (n c : Nat) (rs : List R) (seq : Bool) (u : World) (h : Recs u u.heap.size A n rs) :
    Calls Try.prog 4 #[.slice A n c, .bool seq] u fun e u' => e = .returned (.bool true) ∧ Below u.heap.size u u' := by
  go_enter Try.func4, Try.ntmps4
  by_cases h1 : n > 60
  · have h1' : (n : Int) > 60 := by omega
    go_wp2_with fail
    refine (awake14_any u).mono ?_
    rintro e w1 ⟨rfl, b1⟩
    go_wp2_with fail
    go_ret
    exact ⟨rfl, b1⟩
  · have h1' : ¬ (n : Int) > 60 := by omega
    have hn : n ≤ 60 := by omega
    have HL := Lib.hid h.1
    have HLS := Lib.hid (show (sortR seq rs).length = n by rw [sortR_length, h.1])
    have HWS := Lib.hid (show ∀ x ∈ sortR seq rs, x.wf from fun x hx => h.2.1 x ((sortR_perm seq rs).mem_iff.1 hx))
    have HLA := Lib.hid (show sortR seq (sortR seq rs) = sortR seq rs from sortR_self seq (sortR_sorts seq rs))
    have HST := Lib.hid (show srtB seq (sortR seq rs) = true from srtB_iff.2 (sortR_sorts seq rs))
    have HPM := Lib.hid (sortR_perm seq rs)
    go_wp2_with fail
    refine (sort_any u.heap.size A n c rs seq u (recs_lst h) (Nat.le_refl _) (by omega)).mono ?_
    rintro e w1 ⟨v, rfl, o1, b1⟩
    obtain ⟨A1, n', c1, rfl, hn', _⟩ := OwnL.form2 o1
    obtain rfl : n = n' := hn'.out.symm.trans HLS.out |>.symm
    have l1 := OwnL.lst o1 HWS.out
    generalize sortR seq rs = xs at HLS HWS HLA HST HPM l1
    clear o1 hn'
    go_wp2_with fail
    refine (awake14_any w1).mono ?_
    rintro e w2 ⟨rfl, b2⟩
    have l2 := (Lst.below l1 b2).more b2.size
    have b2 := b1.trans (b2.mono b1.size)
    clear b1 l1
    go_wp2_with fail
    refine (sorted_any w2.heap.size A1 n c1 xs seq w2 l2 (Nat.le_refl _) (by omega)).mono ?_
    rintro e w3 ⟨rfl, b3⟩
    rw [HST.out]
    have l3 := (Lst.below l2 b3).more b3.size
    have b3 := b2.trans (b3.mono b2.size)
    clear b2 l2
    go_wp2_with fail
    refine (sort_any w3.heap.size A1 n c1 xs seq w3 l3 (Nat.le_refl _) (by omega)).mono ?_
    rintro e w4 ⟨v, rfl, o4, b4⟩
    rw [HLA.out] at o4
    obtain ⟨A4, n', c4, rfl, hn', _⟩ := OwnL.form2 o4
    obtain rfl : n = n' := hn'.out.symm.trans HLS.out |>.symm
    have l4 := OwnL.lst o4 HWS.out
    have l3 := (Lst.below l3 b4).more b4.size
    have b4 := b3.trans (b4.mono b3.size)
    clear b3 o4 hn'
    go_wp2_with fail
    refine (Rs.plain_any w4.heap.size w4.heap.size A4 A1 n n c4 c1 _ _ w4 (lst_recs l4) (lst_recs l3) (Nat.le_refl _) (Nat.le_refl _) (by omega) (by omega)).mono ?_
    rintro e wp ⟨rfl, b5⟩
    rw [show decide (xs = xs) = true by simp]
    have l5 := (Lst.below l3 b5).more b5.size
    have b5 := b4.trans (b5.mono b4.size)
    have la := recs_lst (h.below b5)
    clear b4 l3 l4
    go_wp2_with (refine wpList_makeMap_k (w := wp) rfl rfl ?_; intro wm m0 gm)
    obtain ⟨b, hb⟩ : ∃ b, wp.heap.size = b := ⟨_, rfl⟩
    have hub := b5.size
    have bm : Below b wp wm := (Below.refl b wp).grown gm (Nat.le_of_eq hb.symm) (by simp)
    rw [hb] at l5 m0 hub
    clear gm
    rw [hb]
    have HSZ := Lib.hid hb
    clear hb
    go_loopw [7] (fun iv wr => ∃ i : Nat, i ≤ n ∧ iv = .int .i64 i ∧ MpK wr b (2 * i) (cntF rs xs i) ∧ Below b wp wr) (fun i _ => n - (intOf i).toNat)
    case atStart =>
      refine ⟨0, by omega, rfl, ?_, bm⟩
      rw [show cntF rs xs 0 = fun _ => 0 from funext fun q => by simp [cntF]]
      exact m0
    case round =>
      clear m0 bm
      obtain ⟨i, hi, rfl, mr, hst1⟩ := hrel
      by_cases hlt : i < n
      · have hlt' : (i : Int) < (n : Int) := by omega
        obtain ⟨bl, obl, rfl, hbl, hx⟩ := la.at_ hlt
        obtain ⟨bx, obx, rfl, hbx, hy⟩ := l5.at_ hlt
        have hx : wp.rangeAt bl (obl + i * 4) (rs.getD i R0).cells := hx
        have hy : wp.rangeAt bx (obx + i * 4) (xs.getD i R0).cells := hy
        have wx := h.2.1 _ (getD_mem (rs := rs) (i := i) (by have := HL.out; omega))
        have wy := HWS.out _ (getD_mem (rs := xs) (i := i) (by have := HLS.out; omega))
        have HSU := Lib.hid (cntF_succ (rs := rs) (xs := xs) (i := i) (by have := HL.out; omega) (by have := HLS.out; omega))
        have HBD := cntF_bound rs xs i
        have hbl : bl < b := by omega
        generalize cntF rs xs i = f at mr HSU HBD
        generalize rs.getD i R0 = x at hx wx HSU
        generalize xs.getD i R0 = y at hy wy HSU
        have bx1 := HBD x
        have bx2 := HBD y
        obtain ⟨f2, hf2⟩ : ∃ f2, upd f x (f x + 1) = f2 := ⟨_, rfl⟩
        have by2 : -60 ≤ f2 y ∧ f2 y ≤ 61 := by
          rw [← hf2]
          unfold upd
          split <;> omega
        rw [hf2] at HSU
        have HF2 := Lib.hid hf2
        have HADD := Lib.hid (show IntKind.i64.wrap (f x + 1) = f x + 1 by rw [IntKind.wrap_i64]; omega)
        have HSUB := Lib.hid (show IntKind.i64.wrap (f2 y - 1) = f2 y - 1 by rw [IntKind.wrap_i64]; omega)
        have HW1 := Lib.hid (show (Lit.int .i64 (f x + 1)).wf = true by simp [Lit.wf, IntKind.min, IntKind.max, IntKind.signed, IntKind.bits]; omega)
        have HW2 := Lib.hid (show (Lit.int .i64 (f2 y - 1)).wf = true by simp [Lit.wf, IntKind.min, IntKind.max, IntKind.signed, IntKind.bits]; omega)
        clear hf2 HBD bx1 bx2 by2
        go_wp2_with fail
        refine wp_region_held (S := fun W => Below b wp W) (by kernel_rfl) ?_
        change wpAnyH _ _ _ _ _ _ _ _ wr.drew
        have c1_0 := hst1.drew
        have mr := MpK.of_obj (w2 := wr.drew) mr rfl
        refine Held.tk (v := .map (some b)) 0 (some 47) rfl (Held.y_move rfl rfl) c1_0 ?_
        simp only [Act.put, Z1, Z2, Z3]
        refine Held.tk (v := .slice (some ⟨bl, obl, none⟩) n c) 1 (some 48) rfl (Held.y_move rfl rfl) c1_0 ?_
        simp only [Act.put, Z1, Z2, Z3]
        refine Held.tk (v := .int .i64 (i : Int)) 2 (some 49) rfl (Held.y_move rfl rfl) c1_0 ?_
        simp only [Act.put, Z1, Z2, Z3]
        refine Held.tk (v := .pointer (some ⟨bl, obl + i * 4, none⟩)) 3 (some 50) rfl (Held.y_addr rfl rfl rfl (run_addr_of 22 26 bl obl n c i 4 .i64 Try.underlying22 (by kernel_rfl) hlt)) c1_0 ?_
        simp only [Act.put, Z1, Z2, Z3]
        refine Held.tk (v := recV x) 4 (some 51) rfl (y_load_range (n := 4) (cs := x.cells) rfl rfl Try.underlying26 rfl (by kernel_rfl) rfl (fun W hW => range_below hx hW hbl)) c1_0 ?_
        simp only [Act.put, Z1, Z2, Z3]
        refine Held.two 5 7 (by kernel_rfl) ?_ ?_
        · refine op_lookk (w := wr.drew) (f := f) (b := b) 5 (some 52) x rfl rfl rfl rfl rfl rfl wx mr ?_
          refine ⟨c1_0, ?_⟩
          simp only [Act.put, Z1, Z2, Z3]
          refine Held.tk (v := .int .i64 (f x + 1)) 6 (some 53) rfl (Held.y_int rfl rfl rfl (Held.run_add 3 .i64 HADD.out)) c1_0 ?_
          simp only [Act.put, Z1, Z2, Z3]
          refine Held.one 7 (by kernel_rfl) ?_
          refine op_entryk (w := wr.drew) (f := f) (b := b) 7 (some 54) x rfl rfl rfl rfl rfl rfl wx mr (by omega) ?_
          intro v01 st1 w11 m11 g11 h11
          have c1_1 := c1_0.grown g11 (Nat.le_trans (Nat.le_of_eq HSZ.out.symm) c1_0.size) (fun r e => by cases e; exact Nat.le_refl _)
          refine ⟨c1_1, ?_⟩
          simp only [Act.put, Z1, Z2, Z3]
          refine Held.tk (v := st1) 8 (some 55) rfl (Held.y_extract rfl rfl rfl) c1_1 ?_
          simp only [Act.put, Z1, Z2, Z3]
          refine Held.one 9 (by kernel_rfl) ?_
          obtain ⟨w13, hr13, m13, g13⟩ := h11 w11 (f x + 1) rfl HW1.out
          refine op_storek (b := b) 9 none st1 (f x + 1) rfl rfl rfl rfl rfl rfl rfl hr13 ?_
          have c1_2 := c1_1.grown g13 (Nat.le_trans (Nat.le_of_eq HSZ.out.symm) c1_1.size) (fun r e => by cases e; exact Nat.le_refl _)
          refine ⟨c1_2, ?_⟩
          simp only [Act.put]
          refine wpAnyH_done (by kernel_rfl) ?_ _
          have hst2 := c1_2
          have m2 := m13
          generalize w13 = wx1 at hst2 m2 ⊢
          rw [HF2.out] at m2
          go_wp2_with fail
          refine wp_region_held (S := fun W => Below b wp W) (by kernel_rfl) ?_
          change wpAnyH _ _ _ _ _ _ _ _ wx1.drew
          have c2_0 := hst2.drew
          have m2 := MpK.of_obj (w2 := wx1.drew) m2 rfl
          refine Held.tk (v := .map (some b)) 0 (some 56) rfl (Held.y_move rfl rfl) c2_0 ?_
          simp only [Act.put, Z1, Z2, Z3]
          refine Held.tk (v := .slice (some ⟨bx, obx, none⟩) n c1) 1 (some 57) rfl (Held.y_move rfl rfl) c2_0 ?_
          simp only [Act.put, Z1, Z2, Z3]
          refine Held.tk (v := .int .i64 (i : Int)) 2 (some 58) rfl (Held.y_move rfl rfl) c2_0 ?_
          simp only [Act.put, Z1, Z2, Z3]
          refine Held.tk (v := .pointer (some ⟨bx, obx + i * 4, none⟩)) 3 (some 59) rfl (Held.y_addr rfl rfl rfl (run_addr_of 22 26 bx obx n c1 i 4 .i64 Try.underlying22 (by kernel_rfl) hlt)) c2_0 ?_
          simp only [Act.put, Z1, Z2, Z3]
          refine Held.tk (v := recV y) 4 (some 60) rfl (y_load_range (n := 4) (cs := y.cells) rfl rfl Try.underlying26 rfl (by kernel_rfl) rfl (fun W hW => range_below hy hW hbx)) c2_0 ?_
          simp only [Act.put, Z1, Z2, Z3]
          refine Held.two 5 7 (by kernel_rfl) ?_ ?_
          · refine op_lookk (w := wx1.drew) (f := f2) (b := b) 5 (some 61) y rfl rfl rfl rfl rfl rfl wy m2 ?_
            refine ⟨c2_0, ?_⟩
            simp only [Act.put, Z1, Z2, Z3]
            refine Held.tk (v := .int .i64 (f2 y - 1)) 6 (some 62) rfl (Held.y_int rfl rfl rfl (Held.run_sub 3 .i64 HSUB.out)) c2_0 ?_
            simp only [Act.put, Z1, Z2, Z3]
            refine Held.one 7 (by kernel_rfl) ?_
            refine op_entryk (w := wx1.drew) (f := f2) (b := b) 7 (some 63) y rfl rfl rfl rfl rfl rfl wy m2 (by omega) ?_
            intro v02 st2 w21 m21 g21 h21
            have c2_1 := c2_0.grown g21 (Nat.le_trans (Nat.le_of_eq HSZ.out.symm) c2_0.size) (fun r e => by cases e; exact Nat.le_refl _)
            refine ⟨c2_1, ?_⟩
            simp only [Act.put, Z1, Z2, Z3]
            refine Held.tk (v := st2) 8 (some 64) rfl (Held.y_extract rfl rfl rfl) c2_1 ?_
            simp only [Act.put, Z1, Z2, Z3]
            refine Held.one 9 (by kernel_rfl) ?_
            obtain ⟨w23, hr23, m23, g23⟩ := h21 w21 (f2 y - 1) rfl HW2.out
            refine op_storek (b := b) 9 none st2 (f2 y - 1) rfl rfl rfl rfl rfl rfl rfl hr23 ?_
            have c2_2 := c2_1.grown g23 (Nat.le_trans (Nat.le_of_eq HSZ.out.symm) c2_1.size) (fun r e => by cases e; exact Nat.le_refl _)
            refine ⟨c2_2, ?_⟩
            simp only [Act.put]
            refine wpAnyH_done (by kernel_rfl) ?_ _
            have hst3 := c2_2
            have m3 := m23
            generalize w23 = wx2 at hst3 m3 ⊢
            rw [HSU.out] at m3
            go_wp2_with fail
            go_roundw
            case rel => exact ⟨i + 1, by omega, by go_num, m3, hst3⟩
            case measure => simp [intOf]; omega
          · refine op_entryk (w := wx1.drew) (f := f2) (b := b) 7 (some 63) y rfl rfl rfl rfl rfl rfl wy m2 (by omega) ?_
            intro v02 st2 w21 m21 g21 h21
            have c2_1 := c2_0.grown g21 (Nat.le_trans (Nat.le_of_eq HSZ.out.symm) c2_0.size) (fun r e => by cases e; exact Nat.le_refl _)
            refine ⟨c2_1, ?_⟩
            simp only [Act.put, Z1, Z2, Z3]
            refine Held.tk (v := st2) 8 (some 64) rfl (Held.y_extract rfl rfl rfl) c2_1 ?_
            simp only [Act.put, Z1, Z2, Z3]
            refine Held.one 5 (by kernel_rfl) ?_
            refine op_lookk (w := w21) (f := f2) (b := b) 5 (some 61) y rfl rfl rfl rfl rfl rfl wy m21 ?_
            refine ⟨c2_1, ?_⟩
            simp only [Act.put, Z1, Z2, Z3]
            refine Held.tk (v := .int .i64 (f2 y - 1)) 6 (some 62) rfl (Held.y_int rfl rfl rfl (Held.run_sub 3 .i64 HSUB.out)) c2_1 ?_
            simp only [Act.put, Z1, Z2, Z3]
            refine Held.one 9 (by kernel_rfl) ?_
            obtain ⟨w23, hr23, m23, g23⟩ := h21 w21 (f2 y - 1) rfl HW2.out
            refine op_storek (b := b) 9 none st2 (f2 y - 1) rfl rfl rfl rfl rfl rfl rfl hr23 ?_
            have c2_2 := c2_1.grown g23 (Nat.le_trans (Nat.le_of_eq HSZ.out.symm) c2_1.size) (fun r e => by cases e; exact Nat.le_refl _)
            refine ⟨c2_2, ?_⟩
            simp only [Act.put]
            refine wpAnyH_done (by kernel_rfl) ?_ _
            have hst3 := c2_2
            have m3 := m23
            generalize w23 = wx2 at hst3 m3 ⊢
            rw [HSU.out] at m3
            go_wp2_with fail
            go_roundw
            case rel => exact ⟨i + 1, by omega, by go_num, m3, hst3⟩
            case measure => simp [intOf]; omega
        · refine op_entryk (w := wr.drew) (f := f) (b := b) 7 (some 54) x rfl rfl rfl rfl rfl rfl wx mr (by omega) ?_
          intro v01 st1 w11 m11 g11 h11
          have c1_1 := c1_0.grown g11 (Nat.le_trans (Nat.le_of_eq HSZ.out.symm) c1_0.size) (fun r e => by cases e; exact Nat.le_refl _)
          refine ⟨c1_1, ?_⟩
          simp only [Act.put, Z1, Z2, Z3]
          refine Held.tk (v := st1) 8 (some 55) rfl (Held.y_extract rfl rfl rfl) c1_1 ?_
          simp only [Act.put, Z1, Z2, Z3]
          refine Held.one 5 (by kernel_rfl) ?_
          refine op_lookk (w := w11) (f := f) (b := b) 5 (some 52) x rfl rfl rfl rfl rfl rfl wx m11 ?_
          refine ⟨c1_1, ?_⟩
          simp only [Act.put, Z1, Z2, Z3]
          refine Held.tk (v := .int .i64 (f x + 1)) 6 (some 53) rfl (Held.y_int rfl rfl rfl (Held.run_add 3 .i64 HADD.out)) c1_1 ?_
          simp only [Act.put, Z1, Z2, Z3]
          refine Held.one 9 (by kernel_rfl) ?_
          obtain ⟨w13, hr13, m13, g13⟩ := h11 w11 (f x + 1) rfl HW1.out
          refine op_storek (b := b) 9 none st1 (f x + 1) rfl rfl rfl rfl rfl rfl rfl hr13 ?_
          have c1_2 := c1_1.grown g13 (Nat.le_trans (Nat.le_of_eq HSZ.out.symm) c1_1.size) (fun r e => by cases e; exact Nat.le_refl _)
          refine ⟨c1_2, ?_⟩
          simp only [Act.put]
          refine wpAnyH_done (by kernel_rfl) ?_ _
          have hst2 := c1_2
          have m2 := m13
          generalize w13 = wx1 at hst2 m2 ⊢
          rw [HF2.out] at m2
          go_wp2_with fail
          refine wp_region_held (S := fun W => Below b wp W) (by kernel_rfl) ?_
          change wpAnyH _ _ _ _ _ _ _ _ wx1.drew
          have c2_0 := hst2.drew
          have m2 := MpK.of_obj (w2 := wx1.drew) m2 rfl
          refine Held.tk (v := .map (some b)) 0 (some 56) rfl (Held.y_move rfl rfl) c2_0 ?_
          simp only [Act.put, Z1, Z2, Z3]
          refine Held.tk (v := .slice (some ⟨bx, obx, none⟩) n c1) 1 (some 57) rfl (Held.y_move rfl rfl) c2_0 ?_
          simp only [Act.put, Z1, Z2, Z3]
          refine Held.tk (v := .int .i64 (i : Int)) 2 (some 58) rfl (Held.y_move rfl rfl) c2_0 ?_
          simp only [Act.put, Z1, Z2, Z3]
          refine Held.tk (v := .pointer (some ⟨bx, obx + i * 4, none⟩)) 3 (some 59) rfl (Held.y_addr rfl rfl rfl (run_addr_of 22 26 bx obx n c1 i 4 .i64 Try.underlying22 (by kernel_rfl) hlt)) c2_0 ?_
          simp only [Act.put, Z1, Z2, Z3]
          refine Held.tk (v := recV y) 4 (some 60) rfl (y_load_range (n := 4) (cs := y.cells) rfl rfl Try.underlying26 rfl (by kernel_rfl) rfl (fun W hW => range_below hy hW hbx)) c2_0 ?_
          simp only [Act.put, Z1, Z2, Z3]
          refine Held.two 5 7 (by kernel_rfl) ?_ ?_
          · refine op_lookk (w := wx1.drew) (f := f2) (b := b) 5 (some 61) y rfl rfl rfl rfl rfl rfl wy m2 ?_
            refine ⟨c2_0, ?_⟩
            simp only [Act.put, Z1, Z2, Z3]
            refine Held.tk (v := .int .i64 (f2 y - 1)) 6 (some 62) rfl (Held.y_int rfl rfl rfl (Held.run_sub 3 .i64 HSUB.out)) c2_0 ?_
            simp only [Act.put, Z1, Z2, Z3]
            refine Held.one 7 (by kernel_rfl) ?_
            refine op_entryk (w := wx1.drew) (f := f2) (b := b) 7 (some 63) y rfl rfl rfl rfl rfl rfl wy m2 (by omega) ?_
            intro v02 st2 w21 m21 g21 h21
            have c2_1 := c2_0.grown g21 (Nat.le_trans (Nat.le_of_eq HSZ.out.symm) c2_0.size) (fun r e => by cases e; exact Nat.le_refl _)
            refine ⟨c2_1, ?_⟩
            simp only [Act.put, Z1, Z2, Z3]
            refine Held.tk (v := st2) 8 (some 64) rfl (Held.y_extract rfl rfl rfl) c2_1 ?_
            simp only [Act.put, Z1, Z2, Z3]
            refine Held.one 9 (by kernel_rfl) ?_
            obtain ⟨w23, hr23, m23, g23⟩ := h21 w21 (f2 y - 1) rfl HW2.out
            refine op_storek (b := b) 9 none st2 (f2 y - 1) rfl rfl rfl rfl rfl rfl rfl hr23 ?_
            have c2_2 := c2_1.grown g23 (Nat.le_trans (Nat.le_of_eq HSZ.out.symm) c2_1.size) (fun r e => by cases e; exact Nat.le_refl _)
            refine ⟨c2_2, ?_⟩
            simp only [Act.put]
            refine wpAnyH_done (by kernel_rfl) ?_ _
            have hst3 := c2_2
            have m3 := m23
            generalize w23 = wx2 at hst3 m3 ⊢
            rw [HSU.out] at m3
            go_wp2_with fail
            go_roundw
            case rel => exact ⟨i + 1, by omega, by go_num, m3, hst3⟩
            case measure => simp [intOf]; omega
          · refine op_entryk (w := wx1.drew) (f := f2) (b := b) 7 (some 63) y rfl rfl rfl rfl rfl rfl wy m2 (by omega) ?_
            intro v02 st2 w21 m21 g21 h21
            have c2_1 := c2_0.grown g21 (Nat.le_trans (Nat.le_of_eq HSZ.out.symm) c2_0.size) (fun r e => by cases e; exact Nat.le_refl _)
            refine ⟨c2_1, ?_⟩
            simp only [Act.put, Z1, Z2, Z3]
            refine Held.tk (v := st2) 8 (some 64) rfl (Held.y_extract rfl rfl rfl) c2_1 ?_
            simp only [Act.put, Z1, Z2, Z3]
            refine Held.one 5 (by kernel_rfl) ?_
            refine op_lookk (w := w21) (f := f2) (b := b) 5 (some 61) y rfl rfl rfl rfl rfl rfl wy m21 ?_
            refine ⟨c2_1, ?_⟩
            simp only [Act.put, Z1, Z2, Z3]
            refine Held.tk (v := .int .i64 (f2 y - 1)) 6 (some 62) rfl (Held.y_int rfl rfl rfl (Held.run_sub 3 .i64 HSUB.out)) c2_1 ?_
            simp only [Act.put, Z1, Z2, Z3]
            refine Held.one 9 (by kernel_rfl) ?_
            obtain ⟨w23, hr23, m23, g23⟩ := h21 w21 (f2 y - 1) rfl HW2.out
            refine op_storek (b := b) 9 none st2 (f2 y - 1) rfl rfl rfl rfl rfl rfl rfl hr23 ?_
            have c2_2 := c2_1.grown g23 (Nat.le_trans (Nat.le_of_eq HSZ.out.symm) c2_1.size) (fun r e => by cases e; exact Nat.le_refl _)
            refine ⟨c2_2, ?_⟩
            simp only [Act.put]
            refine wpAnyH_done (by kernel_rfl) ?_ _
            have hst3 := c2_2
            have m3 := m23
            generalize w23 = wx2 at hst3 m3 ⊢
            rw [HSU.out] at m3
            go_wp2_with fail
            go_roundw
            case rel => exact ⟨i + 1, by omega, by go_num, m3, hst3⟩
            case measure => simp [intOf]; omega
      · obtain rfl : i = n := by omega
        have hz : cntF rs xs i = fun _ => 0 := funext fun q => by
          have := cntF_end HPM.out q
          rwa [HL.out] at this
        rw [hz] at mr
        clear hz
        obtain ⟨D, hown, hD⟩ := mr
        go_wp2_with (refine wpList_range_own wr rfl _ 34 rfl 26 3 rec_keyed Try.underlying34 _ b (2 * i) D rfl hown ?_; intro w1 r1 g1 s1)
        have b1 : Below b wp w1 := hst1.grown g1 (Nat.le_trans (Nat.le_of_eq HSZ.out.symm) hst1.size) (by simp)
        clear hown
        have hitb : b ≤ wr.heap.size := Nat.le_trans (Nat.le_of_eq HSZ.out.symm) hst1.size
        generalize wr.heap.size = it at r1 hitb
        go_loopw [9] (fun _ wr => ∃ left cnt, wr.ranges Try.prog 26 (plainElem Try.prog 3) b it (2 * i) D left cnt ∧ Below b wp wr) (fun _ wr => wr.rangeLeft b it)
        case atStart => exact ⟨_, _, r1, b1⟩
        case round =>
          clear r1 b1
          obtain ⟨left, cnt, hr, hb2⟩ := hrel
          rcases hr.next rec_keyed 0 with ⟨_, _, hrun⟩ | ⟨key, v, kl, y, w', cnt', hkey, _, hv, hat, hrun, hr', hlt2, hg, _, hent⟩
          · go_wp2_with (refine wpList_ran rfl (run_next_op rfl rfl hrun) ?_)
            go_ret
            exact ⟨rfl, b5.trans (hb2.mono hub)⟩
          · obtain ⟨r, hrw, rfl⟩ := key_inv hkey
            obtain ⟨z, rfl, hz, _⟩ := plainElem_int_inv Try.underlying3 hv
            have hz0 : z = 0 := by
              have h1 := hD r hrw kl hkey
              rw [hat] at h1
              rw [hz] at h1
              injection h1 with h1
              injection h1 with _ h1
            subst hz0
            have hb3 : Below b wp w' := hb2.grown hg (Nat.le_trans (Nat.le_of_eq HSZ.out.symm) hb2.size) (fun r e => by cases e; exact hitb)
            have hm : wr.rangeLeft b it = cnt := hr.left_eq
            have hm' : w'.rangeLeft b it = cnt' := hr'.left_eq
            go_wp2_with (first
              | (refine wpList_ran rfl (run_next_op rfl rfl hrun) ?_)
              | (refine wpList_ran rfl (run_entry_op rfl rfl hent) ?_))
            go_roundw
            case rel => exact ⟨_, _, hr', hb3⟩
            case measure => rw [hm, hm']; exact hlt2
theorem walk (A0 : Option Addr) (m0 c0 : Nat) (rs0 : List Rs.R) (a1 : Bool) (w : World) (hr0 : Rs.Recs w w.heap.size A0 m0 rs0) (hc0 : m0 ≤ c0 ∧ c0 ≤ maxLen) :
    Calls Try.prog 4 #[.slice A0 m0 c0, .bool a1] w fun e w' => e = .returned (.bool true) ∧ Below w.heap.size w w' := by
  exact start A0 m0 c0 rs0 a1 w hr0
set_option maxRecDepth 100000 in
theorem lifted (os : Os) (started : os.Started) (H : Type) (enc : TypeId × Value → H) :
    ReturnsInHanded {} Try.checked os 4 .any (Rows.mergeKeepsSpec.pre6 enc Try.prog Try.f4 Rows.mergeKeepsRow.domain false) (Rows.mergeKeepsSpec.post enc Try.prog Try.f4 false true false false) := by
  refine returnsInHanded_of_change (C := Try.checked) own started (by kernel_rfl) Try.func4
    (ChangeSpec.witness6 (enc := enc) (C := Try.checked) false ⟨#[], #[.slice none 0 0, .bool false], []⟩ 8 (by kernel_rfl) (by kernel_rfl) (by kernel_rfl) (by kernel_rfl)) ?_
  intro W base args ds gs before hval0 hW hcnd _
  have hval : ∀ (j : Nat) t v, Try.f4.params[j]? = some t → args[j]? = some v → Value.okWide Try.prog W .any base t v := hval0
  have hW' := hW
  obtain ⟨p, q, hA0, hV, rfl, hfz, hnd⟩ := hW
  have hA : DataW.TrodAll enc Try.prog W 0 (fun _ => true) true Try.f4.params.toList args.toList ds p := hA0
  rw [Try.params4] at hA hval
  obtain ⟨v0, vs0, d0, ds0, p0, q0, hargs, rfl, rfl, h0, r0⟩ := trodAll_cons hA
  obtain ⟨v1, vs1, d1, ds1, p1, q1, rfl, rfl, rfl, h1, r1⟩ := trodAll_cons r0
  obtain ⟨rfl, rfl, rfl⟩ := trodAll_nil r1
  obtain rfl : args = #[v0, v1] := by cases args; simp_all
  obtain ⟨rfl, rfl⟩ := trodVars_none hV
  obtain ⟨A0, m0, c0, rfl⟩ := okWide_slice Try.underlying22 (hval 0 22 v0 rfl rfl)
  have kk0 := h0
  have lt0 : ∀ x ∈ p0, x.block < W.heap.size := by obtain ⟨m, hm⟩ := kk0; exact DataW.trod_lt m _ _ _ hm
  obtain ⟨rs0, hr0, hc0⟩ := Rs.open_recs h0
  obtain ⟨a1, rfl, rfl, rfl⟩ := open_bool Try.underlying4 (hval 1 4 v1 rfl rfl) h1
  clear hA0 hval0
  refine (walk A0 m0 c0 rs0 a1 W hr0 hc0).mono fun e W' ⟨he, bel⟩ => ?_
  subst he
  exact ⟨_, rfl, _, _, _, [], _, [], hW', trodAll_mk1 (shut_bool Try.underlying4 _), (trodAll_cons_mk (Below.trod laidOut (by kernel_rfl) (of_decide_eq_true (by kernel_rfl)) kk0 bel lt0) (trodAll_cons_mk (shut_bool Try.underlying4 _) trodAll_mk0)), rfl, bel.frame _, fun h => by cases h⟩
theorem over : Rows.mergeKeepsRow.holds Try.pinned (OpenSpec.ofChange Rows.mergeKeepsSpec) :=
  OpenClaim.holds_of_wide 4 Try.f4 rfl rfl rfl rfl rfl rfl rfl ⟨rfl, rfl, rfl, rfl, rfl⟩ rfl rfl rfl rfl rfl (by kernel_rfl) Try.func4 (by kernel_rfl)
    (of_decide_eq_true (by kernel_rfl)) (by unfold Func.isWrapper; first | (rw [if_pos (by decide +kernel)]; kernel_rfl) | (rw [if_neg (by decide +kernel)]; exact ⟨rfl, rfl⟩))
    (fun os started H enc _ => lifted os started H enc)
theorem proved : Rows.MergeKeepsSaid :=
  over
#print axioms proved
end Go.Proofs.Ytbhgonnonhiocaa.mergeKeeps
