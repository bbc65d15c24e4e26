/-
  The law ChainOne of package dominolaw15 returns true for every key and value of a carry, and every record behind it, dead or not: of its key it is folded in, of another one the carry comes out, finished, and a dead one ends it.
-/
import Derived.Test.YtkiempdpfmolfaaRows
import Derived.WalkKit
import Derived.ProofKit
import Derived.OpenShut
import Derived.ShutString
import Derived.ChangeOld
import Derived.Below
import Derived.Test.YtkiempdpfmolfaaB9
namespace Go.Proofs.Ytkiempdpfmolfaa.chainOne
open Go.ChangeShapes Go.WideShapes Go.ChangeAt Go.RowKit
open Go.ChangeMaps (open_string shut_string)
open Go.Shelf Go.Proofs.Ytkiempdpfmolfaa Mem Held Ct Rc Rs Sl Vm Mg Cn
theorem own : ownKnob Try.prog.godebug = none := by kernel_rfl
attribute [local irreducible] wpList wpListIn Calls
def OS : O := ⟨3, 0, 0, 1, 0, 0⟩
theorem OS_wf : ∀ o ∈ [OS], o.wf := fun o ho => by rw [List.mem_singleton.1 ho]; exact ⟨rfl, rfl, rfl, rfl, rfl, rfl⟩
theorem one_check : checkB 1 [] [OA] [OS] = true := rfl
theorem one_dead (key v : Int) : outs (foldV 1 [] [OA] [OS]) (finishV 1 [] [OA] [OS]) (bareR ⟨false, key, v, 0⟩) [RD] = [⟨false, key, wrap64 (v - key), 0⟩] ∧ ends (foldV 1 [] [OA] [OS]) (bareR ⟨false, key, v, 0⟩) [RD] = RD := ⟨rfl, rfl⟩
theorem one_same (key v w : Int) : outs (foldV 1 [] [OA] [OS]) (finishV 1 [] [OA] [OS]) (bareR ⟨false, key, v, 0⟩) [⟨false, key, w, 9⟩] = [RD] ∧ ends (foldV 1 [] [OA] [OS]) (bareR ⟨false, key, v, 0⟩) [⟨false, key, w, 9⟩] = ⟨false, key, wrap64 (v + w), 0⟩ := by
  have hb : bareR ⟨false, key, v, 0⟩ = ⟨false, key, v, 0⟩ := rfl
  have hg : goesB ⟨false, key, v, 0⟩ ⟨false, key, w, 9⟩ = true := by simp [goesB]
  rw [hb, outs, outs, ends, ends, outR, nextR, if_pos hg, if_pos hg]
  exact ⟨rfl, rfl⟩
theorem one_other (key v k w : Int) (h : ¬ key = k) : outs (foldV 1 [] [OA] [OS]) (finishV 1 [] [OA] [OS]) (bareR ⟨false, key, v, 0⟩) [⟨false, k, w, 9⟩] = [⟨false, key, wrap64 (v - key), 0⟩] ∧ ends (foldV 1 [] [OA] [OS]) (bareR ⟨false, key, v, 0⟩) [⟨false, k, w, 9⟩] = ⟨false, k, w, 0⟩ := by
  have hb : bareR ⟨false, key, v, 0⟩ = ⟨false, key, v, 0⟩ := rfl
  have hg : ¬ goesB ⟨false, key, v, 0⟩ ⟨false, k, w, 9⟩ = true := by
    simp [goesB]
    exact fun e => h e.symm
  rw [hb, outs, outs, ends, ends, outR, nextR, if_neg hg, if_neg hg]
  exact ⟨rfl, rfl⟩
set_option maxRecDepth 100000 in
set_option maxHeartbeats 16000000 in
theorem start (key v other x : Int) (dead : Bool) (w : World) (wk : (Lit.int .i64 key).wf = true) (wv : (Lit.int .i64 v).wf = true) (wo : (Lit.int .i64 other).wf = true) (wx : (Lit.int .i64 x).wf = true) :
    Calls Try.prog 7 #[.int .i64 key, .int .i64 v, .int .i64 other, .int .i64 x, .bool dead] w fun e w' => e = .returned (.bool true) ∧ Below w.heap.size w w' := by
  cases dead
  · by_cases hne : key = other
    · subst hne
      have HR := Lib.hid (one_same key v x)
      obtain ⟨z, hz⟩ : ∃ z, wrap64 (v + x) = z := ⟨_, rfl⟩
      have hzw : (Lit.int .i64 z).wf = true := hz ▸ wrap64_wf _
      have hiz : IntKind.i64.wrap (v + x) = z := by rw [w64]; exact hz
      rw [hz] at HR
      clear hz
      go_enter Try.func7, Try.ntmps7
      go_wp2_with fail
      refine (sum_any _).mono ?_
      rintro e u1 ⟨g, rfl, q1, hg, b1⟩
      have lg : g < u1.heap.size := q1.lt
      go_wp2_with (first
        | (refine wpList_alloc_blk (w := u1) rfl 24 rfl _ prog_zero ?_; intro u2 q2 g2 z2)
        | (refine wpList_store_blk (w := u2) rfl 24 _ _ rfl u1.heap.size 4 rfl 24 _ #[.int .i64 1, .slice none 0 0, .slice (some ⟨g, 0, none⟩) 1 1, .slice none 0 0] rfl q2 info_prog rfl rfl (by kernel_rfl) ?_; intro u3 q3 g3 z3; have b3 : Below u1.heap.size u1 u3 := ((Below.refl _ u1).grown g2 (Nat.le_refl _) (by simp)).grown g3 g2.size (fun r e => by cases e; exact Nat.le_refl _); have qa := q1.after b3; have l1 := q2.lt; have l3 := g3.size; clear q2 g2 g3 z2 z3)
        | (refine wpList_build_blk rfl 50 _ rfl #[.int .i64 3, .int .i64 0, .int .i64 0, .int .i64 1, .int .i64 0, .int .i64 0] (by kernel_rfl) ?_)
        | (refine wpList_build_lst (w := u3) (k := kO) rfl 22 50 1 _ rfl Try.underlying22 _ 48 op_info rfl [OS] rfl (by kernel_rfl) (by omega) (by decide) ?_; intro u4 q4 g4 z4; have qa := qa.grown g4 (by simp); have qp := q3.grown g4 (by simp); have l4 := q4.lt)
        | (refine wpList_run (w := u4) rfl (v := .pointer (some ⟨u1.heap.size, 3, none⟩)) (Held.y_field (S := fun _ => True) (k := 3) (s := 0) rfl rfl Try.underlying24 rfl (by kernel_rfl) rfl _ trivial) ?_)
        | (refine wpList_store_field (w := u4) rfl 22 _ _ rfl u1.heap.size 3 rfl 24 _ (.slice (some ⟨u3.heap.size, 0, none⟩) 1 1) rfl qp (by simp) (by kernel_rfl) rfl rfl ?_; intro u5 qp5 g5 z5; have qp5 : Blk u5 u1.heap.size 24 #[.int .i64 1, .slice none 0 0, .slice (some ⟨g, 0, none⟩) 1 1, .slice (some ⟨u3.heap.size, 0, none⟩) 1 1] := qp5; have qa5 := qa.grown g5 (by intro e; injection e with e; omega); have qs5 := q4.grown g5 (by intro e; injection e with e; omega); have l5 := g5.size)
        | (refine wpList_build_blk rfl 26 #[_, _] rfl #[.bool false, .int .i64 key, .int .i64 v, .int .i64 0] (by kernel_rfl) ?_)
        | (refine wpList_alloc_blk (w := u5) rfl 26 rfl _ zero_rec ?_; intro u6 q6 g6 z6; have l6 := q6.lt)
        | (refine wpList_store_blk (w := u6) rfl 26 _ _ rfl u5.heap.size 4 rfl 26 _ #[.bool false, .int .i64 key, .int .i64 v, .int .i64 0] rfl q6 info_rec rfl rfl (by kernel_rfl) ?_; intro u7 q7 g7 z7; have b7 : Below u5.heap.size u5 u7 := ((Below.refl _ u5).grown g6 (Nat.le_refl _) (by simp)).grown g7 g6.size (fun r e => by cases e; exact Nat.le_refl _); have l7 := g7.size)
        | (refine wpList_build_blk rfl 26 #[_, _, _] rfl #[.bool false, .int .i64 key, .int .i64 x, .int .i64 9] (by kernel_rfl) ?_)
        | (refine wpList_alloc_blk (w := u7) rfl 26 rfl _ zero_rec ?_; intro u8 q8 g8 z8; have l8 := q8.lt)
        | (refine wpList_store_blk (w := u8) rfl 26 _ _ rfl u7.heap.size 4 rfl 26 _ #[.bool false, .int .i64 key, .int .i64 x, .int .i64 9] rfl q8 info_rec rfl rfl (by kernel_rfl) ?_; intro u9 q9 g9 z9; have b9 : Below u7.heap.size u7 u9 := ((Below.refl _ u7).grown g8 (Nat.le_refl _) (by simp)).grown g9 g8.size (fun r e => by cases e; exact Nat.le_refl _); have l9 := g9.size; have qp9 := (qp5.after b7).after b9; have qc9 := q7.after b9; have qa9 := (qa5.after b7).after b9; have qs9 := (qs5.after b7).after b9)
        | (refine wpList_load_blk (w := u9) rfl 24 _ rfl u1.heap.size 4 rfl 24 _ qp9 _ Try.underlying24 rfl info_prog rfl ?_)
        | (refine wpList_load_blk (w := u9) rfl 26 _ rfl u5.heap.size 4 rfl 26 _ qc9 _ Try.underlying26 rfl info_rec rfl ?_)
        | (refine wpList_load_blk (w := u9) rfl 26 _ rfl u7.heap.size 4 rfl 26 _ q9 _ Try.underlying26 rfl info_rec rfl ?_)
        | (refine wpList_build_lst (w := u9) (k := kRec) rfl 27 26 1 _ rfl Try.underlying27 _ 32 info_kRec rfl [⟨false, key, x, 9⟩] rfl (by kernel_rfl) (by omega) (by decide) ?_; intro ua qq ga za))
      have hle := b1.size
      have hle7 := b7.size
      have hle9 := b9.size
      have bw : Below w.heap.size w ua := (((((b1.trans (b3.mono b1.size)).grown g4 (by omega) (by simp)).grown g5 (by omega) (fun r e => by cases e; exact b1.size)).trans (b7.mono (by omega))).trans (b9.mono (by omega))).grown ga (by omega) (by simp)
      have qaA := qa9.grown ga (by simp)
      have qsA := qs9.grown ga (by simp)
      have lq := lst_whole (k := kRec) (xs := [⟨false, key, x, 9⟩]) (n := 1) qq rfl (fun y hy => by rw [List.mem_singleton.1 hy]; exact ⟨wk, wx, rfl⟩)
      clear b3 g4 g5 b7 b9 ga qa9 qs9 qq qp9 qc9 q9
      refine (step_any ua.heap.size ua.heap.size 1 none (some ⟨g, 0, none⟩) (some ⟨u3.heap.size, 0, none⟩) (some ⟨u9.heap.size, 0, none⟩) 0 0 1 1 1 1 1 1 [] [OA] [OS] ⟨false, key, v, 0⟩ [⟨false, key, x, 9⟩] ua (Lst.nil _ _ _ _) (sum_lst qaA) (lst_whole qsA rfl OS_wf) lq (Nat.le_refl _) (Nat.le_refl _) (by omega) one_check ⟨wk, wv, rfl⟩).mono ?_
      rintro e ub ⟨vv, rfl, ob, bb⟩
      rw [HR.out.1] at ob
      rw [HR.out.2]
      have bb := bw.trans (bb.mono bw.size)
      obtain ⟨A, c, rfl, _⟩ := OwnL.form ob
      obtain ⟨b, off, rfl, hb, hx⟩ := (OwnL.lst ob (fun y hy => by rw [List.mem_singleton.1 hy]; exact wf_dead)).at_ (i := 0) (Nat.succ_pos _)
      have hx : ub.rangeAt b (off + 0 * 4) [.bool true, .int .i64 0, .int .i64 0, .int .i64 0] := hx
      clear ob lq qaA qsA bw HR
      go_wp2_with (first
        | (refine wpList_alloc_blk (w := ub) rfl 26 rfl _ zero_rec ?_; intro uc qc gc zc)
        | (refine wpList_store_blk (w := uc) rfl 26 _ _ rfl ub.heap.size 4 rfl 26 _ #[.bool false, .int .i64 key, .int .i64 z, .int .i64 0] rfl qc info_rec rfl rfl (by kernel_rfl) ?_; intro ue qe ge ze))
      have be : Below ub.heap.size ub ue := ((Below.refl _ ub).grown gc (Nat.le_refl _) (by simp)).grown ge gc.size (fun r e => by cases e; exact Nat.le_refl _)
      have hx := range_below hx be hb
      have hbe := Nat.lt_of_lt_of_le hb be.size
      have be := bb.trans (be.mono bb.size)
      clear qc gc ge zc ze bb
      refine (awake15_any ue).mono ?_
      rintro e uf ⟨rfl, bf⟩
      have qf := qe.after bf
      have hx := range_below hx bf hbe
      have hbf := Nat.lt_of_lt_of_le hbe bf.size
      have bf := be.trans (bf.mono be.size)
      clear qe be
      have hxl := hx
      have qfl := qf
      have bl := bf
      go_wp2_with (first
        | (refine wpList_build_blk rfl 26 #[_] rfl #[.bool true, .int .i64 0, .int .i64 0, .int .i64 0] (by kernel_rfl) ?_)
        | (refine wpList_run (w := uf) rfl (v := .pointer (some ⟨b, off + 0 * 4, none⟩)) (Held.y_addr (S := fun _ => True) rfl rfl rfl (run_addr_of (P := Try.prog) 27 26 b off 1 c 0 4 .i64 Try.underlying27 info_rec (by omega)) _ trivial) ?_)
        | (refine wpList_run (w := uf) rfl (v := .agg #[.bool true, .int .i64 0, .int .i64 0, .int .i64 0]) (y_load_range (S := fun W => W = uf) (n := 4) (cs := [.bool true, .int .i64 0, .int .i64 0, .int .i64 0]) rfl rfl Try.underlying26 rfl info_rec rfl (fun W hW => by rw [hW]; exact hxl) _ rfl) ?_)
        | (refine wpList_build_blk rfl 26 #[(1, .tmp 58), (2, .tmp 61)] rfl #[.bool false, .int .i64 key, .int .i64 z, .int .i64 0] (by kernel_rfl) ?_)
        | (refine wpList_load_blk (w := uf) rfl 26 _ rfl ub.heap.size 4 rfl 26 _ qfl _ Try.underlying26 rfl info_rec rfl ?_)
        | (refine wpList_run (w := uf) rfl (v := .bool true) (y_eqr (S := fun _ => True) rfl rfl rfl (by simp) _ trivial) ?_))
      go_ret
      exact ⟨rfl, bl⟩
    · have HR := Lib.hid (one_other key v other x hne)
      obtain ⟨z, hz⟩ : ∃ z, wrap64 (v - key) = z := ⟨_, rfl⟩
      have hzw : (Lit.int .i64 z).wf = true := hz ▸ wrap64_wf _
      have hiz : IntKind.i64.wrap (v - key) = z := by rw [w64]; exact hz
      rw [hz] at HR
      clear hz
      have hd1 : decide (key = other) = false := by simp [hne]
      have hd2 : (key == other) = false := by simp [hne]
      go_enter Try.func7, Try.ntmps7
      go_wp2_with fail
      refine (sum_any _).mono ?_
      rintro e u1 ⟨g, rfl, q1, hg, b1⟩
      have lg : g < u1.heap.size := q1.lt
      go_wp2_with (first
        | (refine wpList_alloc_blk (w := u1) rfl 24 rfl _ prog_zero ?_; intro u2 q2 g2 z2)
        | (refine wpList_store_blk (w := u2) rfl 24 _ _ rfl u1.heap.size 4 rfl 24 _ #[.int .i64 1, .slice none 0 0, .slice (some ⟨g, 0, none⟩) 1 1, .slice none 0 0] rfl q2 info_prog rfl rfl (by kernel_rfl) ?_; intro u3 q3 g3 z3; have b3 : Below u1.heap.size u1 u3 := ((Below.refl _ u1).grown g2 (Nat.le_refl _) (by simp)).grown g3 g2.size (fun r e => by cases e; exact Nat.le_refl _); have qa := q1.after b3; have l1 := q2.lt; have l3 := g3.size; clear q2 g2 g3 z2 z3)
        | (refine wpList_build_blk rfl 50 _ rfl #[.int .i64 3, .int .i64 0, .int .i64 0, .int .i64 1, .int .i64 0, .int .i64 0] (by kernel_rfl) ?_)
        | (refine wpList_build_lst (w := u3) (k := kO) rfl 22 50 1 _ rfl Try.underlying22 _ 48 op_info rfl [OS] rfl (by kernel_rfl) (by omega) (by decide) ?_; intro u4 q4 g4 z4; have qa := qa.grown g4 (by simp); have qp := q3.grown g4 (by simp); have l4 := q4.lt)
        | (refine wpList_run (w := u4) rfl (v := .pointer (some ⟨u1.heap.size, 3, none⟩)) (Held.y_field (S := fun _ => True) (k := 3) (s := 0) rfl rfl Try.underlying24 rfl (by kernel_rfl) rfl _ trivial) ?_)
        | (refine wpList_store_field (w := u4) rfl 22 _ _ rfl u1.heap.size 3 rfl 24 _ (.slice (some ⟨u3.heap.size, 0, none⟩) 1 1) rfl qp (by simp) (by kernel_rfl) rfl rfl ?_; intro u5 qp5 g5 z5; have qp5 : Blk u5 u1.heap.size 24 #[.int .i64 1, .slice none 0 0, .slice (some ⟨g, 0, none⟩) 1 1, .slice (some ⟨u3.heap.size, 0, none⟩) 1 1] := qp5; have qa5 := qa.grown g5 (by intro e; injection e with e; omega); have qs5 := q4.grown g5 (by intro e; injection e with e; omega); have l5 := g5.size)
        | (refine wpList_build_blk rfl 26 #[_, _] rfl #[.bool false, .int .i64 key, .int .i64 v, .int .i64 0] (by kernel_rfl) ?_)
        | (refine wpList_alloc_blk (w := u5) rfl 26 rfl _ zero_rec ?_; intro u6 q6 g6 z6; have l6 := q6.lt)
        | (refine wpList_store_blk (w := u6) rfl 26 _ _ rfl u5.heap.size 4 rfl 26 _ #[.bool false, .int .i64 key, .int .i64 v, .int .i64 0] rfl q6 info_rec rfl rfl (by kernel_rfl) ?_; intro u7 q7 g7 z7; have b7 : Below u5.heap.size u5 u7 := ((Below.refl _ u5).grown g6 (Nat.le_refl _) (by simp)).grown g7 g6.size (fun r e => by cases e; exact Nat.le_refl _); have l7 := g7.size)
        | (refine wpList_build_blk rfl 26 #[_, _, _] rfl #[.bool false, .int .i64 other, .int .i64 x, .int .i64 9] (by kernel_rfl) ?_)
        | (refine wpList_alloc_blk (w := u7) rfl 26 rfl _ zero_rec ?_; intro u8 q8 g8 z8; have l8 := q8.lt)
        | (refine wpList_store_blk (w := u8) rfl 26 _ _ rfl u7.heap.size 4 rfl 26 _ #[.bool false, .int .i64 other, .int .i64 x, .int .i64 9] rfl q8 info_rec rfl rfl (by kernel_rfl) ?_; intro u9 q9 g9 z9; have b9 : Below u7.heap.size u7 u9 := ((Below.refl _ u7).grown g8 (Nat.le_refl _) (by simp)).grown g9 g8.size (fun r e => by cases e; exact Nat.le_refl _); have l9 := g9.size; have qp9 := (qp5.after b7).after b9; have qc9 := q7.after b9; have qa9 := (qa5.after b7).after b9; have qs9 := (qs5.after b7).after b9)
        | (refine wpList_load_blk (w := u9) rfl 24 _ rfl u1.heap.size 4 rfl 24 _ qp9 _ Try.underlying24 rfl info_prog rfl ?_)
        | (refine wpList_load_blk (w := u9) rfl 26 _ rfl u5.heap.size 4 rfl 26 _ qc9 _ Try.underlying26 rfl info_rec rfl ?_)
        | (refine wpList_load_blk (w := u9) rfl 26 _ rfl u7.heap.size 4 rfl 26 _ q9 _ Try.underlying26 rfl info_rec rfl ?_)
        | (refine wpList_build_lst (w := u9) (k := kRec) rfl 27 26 1 _ rfl Try.underlying27 _ 32 info_kRec rfl [⟨false, other, x, 9⟩] rfl (by kernel_rfl) (by omega) (by decide) ?_; intro ua qq ga za))
      have hle := b1.size
      have hle7 := b7.size
      have hle9 := b9.size
      have bw : Below w.heap.size w ua := (((((b1.trans (b3.mono b1.size)).grown g4 (by omega) (by simp)).grown g5 (by omega) (fun r e => by cases e; exact b1.size)).trans (b7.mono (by omega))).trans (b9.mono (by omega))).grown ga (by omega) (by simp)
      have qaA := qa9.grown ga (by simp)
      have qsA := qs9.grown ga (by simp)
      have lq := lst_whole (k := kRec) (xs := [⟨false, other, x, 9⟩]) (n := 1) qq rfl (fun y hy => by rw [List.mem_singleton.1 hy]; exact ⟨wo, wx, rfl⟩)
      clear b3 g4 g5 b7 b9 ga qa9 qs9 qq qp9 qc9 q9
      refine (step_any ua.heap.size ua.heap.size 1 none (some ⟨g, 0, none⟩) (some ⟨u3.heap.size, 0, none⟩) (some ⟨u9.heap.size, 0, none⟩) 0 0 1 1 1 1 1 1 [] [OA] [OS] ⟨false, key, v, 0⟩ [⟨false, other, x, 9⟩] ua (Lst.nil _ _ _ _) (sum_lst qaA) (lst_whole qsA rfl OS_wf) lq (Nat.le_refl _) (Nat.le_refl _) (by omega) one_check ⟨wk, wv, rfl⟩).mono ?_
      rintro e ub ⟨vv, rfl, ob, bb⟩
      rw [HR.out.1] at ob
      rw [HR.out.2]
      have bb := bw.trans (bb.mono bw.size)
      obtain ⟨A, c, rfl, _⟩ := OwnL.form ob
      obtain ⟨b, off, rfl, hb, hx⟩ := (OwnL.lst ob (fun y hy => by rw [List.mem_singleton.1 hy]; exact ⟨wk, hzw, rfl⟩)).at_ (i := 0) (Nat.succ_pos _)
      have hx : ub.rangeAt b (off + 0 * 4) [.bool false, .int .i64 key, .int .i64 z, .int .i64 0] := hx
      clear ob lq qaA qsA bw HR
      go_wp2_with (first
        | (refine wpList_alloc_blk (w := ub) rfl 26 rfl _ zero_rec ?_; intro uc qc gc zc)
        | (refine wpList_store_blk (w := uc) rfl 26 _ _ rfl ub.heap.size 4 rfl 26 _ #[.bool false, .int .i64 other, .int .i64 x, .int .i64 0] rfl qc info_rec rfl rfl (by kernel_rfl) ?_; intro ue qe ge ze))
      have be : Below ub.heap.size ub ue := ((Below.refl _ ub).grown gc (Nat.le_refl _) (by simp)).grown ge gc.size (fun r e => by cases e; exact Nat.le_refl _)
      have hx := range_below hx be hb
      have hbe := Nat.lt_of_lt_of_le hb be.size
      have be := bb.trans (be.mono bb.size)
      clear qc gc ge zc ze bb
      refine (awake15_any ue).mono ?_
      rintro e uf ⟨rfl, bf⟩
      have qf := qe.after bf
      have hx := range_below hx bf hbe
      have hbf := Nat.lt_of_lt_of_le hbe bf.size
      have bf := be.trans (bf.mono be.size)
      clear qe be
      go_wp2_with (first
        | (refine wpList_build_blk rfl 26 #[(1, .tmp 65), (2, .tmp 66)] rfl #[.bool false, .int .i64 other, .int .i64 x, .int .i64 0] (by kernel_rfl) ?_)
        | (refine wpList_alloc_blk (w := uf) rfl 26 rfl _ zero_rec ?_; intro ug qg gg zg)
        | (refine wpList_store_blk (w := ug) rfl 26 _ _ rfl uf.heap.size 4 rfl 26 _ #[.bool false, .int .i64 other, .int .i64 x, .int .i64 0] rfl qg info_rec rfl rfl (by kernel_rfl) ?_; intro uh qh gh zh; have bh : Below uf.heap.size uf uh := ((Below.refl _ uf).grown gg (Nat.le_refl _) (by simp)).grown gh gg.size (fun r e => by cases e; exact Nat.le_refl _); have hxl := range_below hx bh hbf; have qfl := qf.after bh; have bl := bf.trans (bh.mono bf.size); have ql := qh)
        | (refine wpList_load_blk (w := uh) rfl 26 _ rfl uf.heap.size 4 rfl 26 _ ql _ Try.underlying26 rfl info_rec rfl ?_)
        | (refine wpList_run (w := uh) rfl (v := .pointer (some ⟨b, off + 0 * 4, none⟩)) (Held.y_addr (S := fun _ => True) rfl rfl rfl (run_addr_of (P := Try.prog) 27 26 b off 1 c 0 4 .i64 Try.underlying27 info_rec (by omega)) _ trivial) ?_)
        | (refine wpList_run (w := uh) rfl (v := .agg #[.bool false, .int .i64 key, .int .i64 z, .int .i64 0]) (y_load_range (S := fun W => W = uh) (n := 4) (cs := [.bool false, .int .i64 key, .int .i64 z, .int .i64 0]) rfl rfl Try.underlying26 rfl info_rec rfl (fun W hW => by rw [hW]; exact hxl) _ rfl) ?_)
        | (refine wpList_build_blk rfl 26 #[(1, .tmp 73), (2, .tmp 76)] rfl #[.bool false, .int .i64 key, .int .i64 z, .int .i64 0] (by kernel_rfl) ?_)
        | (refine wpList_load_blk (w := uh) rfl 26 _ rfl ub.heap.size 4 rfl 26 _ qfl _ Try.underlying26 rfl info_rec rfl ?_)
        | (refine wpList_run (w := uh) rfl (v := .bool true) (y_eqr (S := fun _ => True) rfl rfl rfl (by simp) _ trivial) ?_))
      go_ret
      exact ⟨rfl, bl⟩
  · have HR := Lib.hid (one_dead key v)
    obtain ⟨z, hz⟩ : ∃ z, wrap64 (v - key) = z := ⟨_, rfl⟩
    have hzw : (Lit.int .i64 z).wf = true := hz ▸ wrap64_wf _
    have hiz : IntKind.i64.wrap (v - key) = z := by rw [w64]; exact hz
    rw [hz] at HR
    clear hz
    go_enter Try.func7, Try.ntmps7
    go_wp2_with fail
    refine (sum_any _).mono ?_
    rintro e u1 ⟨g, rfl, q1, hg, b1⟩
    have lg : g < u1.heap.size := q1.lt
    go_wp2_with (first
      | (refine wpList_alloc_blk (w := u1) rfl 24 rfl _ prog_zero ?_; intro u2 q2 g2 z2)
      | (refine wpList_store_blk (w := u2) rfl 24 _ _ rfl u1.heap.size 4 rfl 24 _ #[.int .i64 1, .slice none 0 0, .slice (some ⟨g, 0, none⟩) 1 1, .slice none 0 0] rfl q2 info_prog rfl rfl (by kernel_rfl) ?_; intro u3 q3 g3 z3; have b3 : Below u1.heap.size u1 u3 := ((Below.refl _ u1).grown g2 (Nat.le_refl _) (by simp)).grown g3 g2.size (fun r e => by cases e; exact Nat.le_refl _); have qa := q1.after b3; have l1 := q2.lt; have l3 := g3.size; clear q2 g2 g3 z2 z3)
      | (refine wpList_build_blk rfl 50 _ rfl #[.int .i64 3, .int .i64 0, .int .i64 0, .int .i64 1, .int .i64 0, .int .i64 0] (by kernel_rfl) ?_)
      | (refine wpList_build_lst (w := u3) (k := kO) rfl 22 50 1 _ rfl Try.underlying22 _ 48 op_info rfl [OS] rfl (by kernel_rfl) (by omega) (by decide) ?_; intro u4 q4 g4 z4; have qa := qa.grown g4 (by simp); have qp := q3.grown g4 (by simp); have l4 := q4.lt)
      | (refine wpList_run (w := u4) rfl (v := .pointer (some ⟨u1.heap.size, 3, none⟩)) (Held.y_field (S := fun _ => True) (k := 3) (s := 0) rfl rfl Try.underlying24 rfl (by kernel_rfl) rfl _ trivial) ?_)
      | (refine wpList_store_field (w := u4) rfl 22 _ _ rfl u1.heap.size 3 rfl 24 _ (.slice (some ⟨u3.heap.size, 0, none⟩) 1 1) rfl qp (by simp) (by kernel_rfl) rfl rfl ?_; intro u5 qp5 g5 z5; have qp5 : Blk u5 u1.heap.size 24 #[.int .i64 1, .slice none 0 0, .slice (some ⟨g, 0, none⟩) 1 1, .slice (some ⟨u3.heap.size, 0, none⟩) 1 1] := qp5; have qa5 := qa.grown g5 (by intro e; injection e with e; omega); have qs5 := q4.grown g5 (by intro e; injection e with e; omega); have l5 := g5.size)
      | (refine wpList_build_blk rfl 26 #[_, _] rfl #[.bool false, .int .i64 key, .int .i64 v, .int .i64 0] (by kernel_rfl) ?_)
      | (refine wpList_alloc_blk (w := u5) rfl 26 rfl _ zero_rec ?_; intro u6 q6 g6 z6; have l6 := q6.lt)
      | (refine wpList_store_blk (w := u6) rfl 26 _ _ rfl u5.heap.size 4 rfl 26 _ #[.bool false, .int .i64 key, .int .i64 v, .int .i64 0] rfl q6 info_rec rfl rfl (by kernel_rfl) ?_; intro u7 q7 g7 z7; have b7 : Below u5.heap.size u5 u7 := ((Below.refl _ u5).grown g6 (Nat.le_refl _) (by simp)).grown g7 g6.size (fun r e => by cases e; exact Nat.le_refl _); have l7 := g7.size)
      | (refine wpList_build_blk rfl 26 #[_, _, _] rfl #[.bool false, .int .i64 other, .int .i64 x, .int .i64 9] (by kernel_rfl) ?_)
      | (refine wpList_alloc_blk (w := u7) rfl 26 rfl _ zero_rec ?_; intro u8 q8 g8 z8; have l8 := q8.lt)
      | (refine wpList_store_blk (w := u8) rfl 26 _ _ rfl u7.heap.size 4 rfl 26 _ #[.bool false, .int .i64 other, .int .i64 x, .int .i64 9] rfl q8 info_rec rfl rfl (by kernel_rfl) ?_; intro u9 q9 g9 z9; have b9 : Below u7.heap.size u7 u9 := ((Below.refl _ u7).grown g8 (Nat.le_refl _) (by simp)).grown g9 g8.size (fun r e => by cases e; exact Nat.le_refl _); have l9 := g9.size)
      | (refine wpList_build_blk rfl 26 #[_] rfl #[.bool true, .int .i64 0, .int .i64 0, .int .i64 0] (by kernel_rfl) ?_)
      | (refine wpList_store_blk (w := u9) rfl 26 _ _ rfl u7.heap.size 4 rfl 26 _ #[.bool true, .int .i64 0, .int .i64 0, .int .i64 0] rfl q9 info_rec rfl rfl (by kernel_rfl) ?_; intro ud q9 gd zd; have b9 := b9.grown gd (by have := b9.size; omega) (fun r e => by cases e; exact Nat.le_refl _); have l9 := gd.size; have qp9 := (qp5.after b7).after b9; have qc9 := q7.after b9; have qa9 := (qa5.after b7).after b9; have qs9 := (qs5.after b7).after b9)
      | (refine wpList_load_blk (w := ud) rfl 24 _ rfl u1.heap.size 4 rfl 24 _ qp9 _ Try.underlying24 rfl info_prog rfl ?_)
      | (refine wpList_load_blk (w := ud) rfl 26 _ rfl u5.heap.size 4 rfl 26 _ qc9 _ Try.underlying26 rfl info_rec rfl ?_)
      | (refine wpList_load_blk (w := ud) rfl 26 _ rfl u7.heap.size 4 rfl 26 _ q9 _ Try.underlying26 rfl info_rec rfl ?_)
      | (refine wpList_build_lst (w := ud) (k := kRec) rfl 27 26 1 _ rfl Try.underlying27 _ 32 info_kRec rfl [RD] rfl (by kernel_rfl) (by omega) (by decide) ?_; intro ua qq ga za))
    have hle := b1.size
    have hle7 := b7.size
    have hle9 := b9.size
    have bw : Below w.heap.size w ua := (((((b1.trans (b3.mono b1.size)).grown g4 (by omega) (by simp)).grown g5 (by omega) (fun r e => by cases e; exact b1.size)).trans (b7.mono (by omega))).trans (b9.mono (by omega))).grown ga (by omega) (by simp)
    have qaA := qa9.grown ga (by simp)
    have qsA := qs9.grown ga (by simp)
    have lq := lst_whole (k := kRec) (xs := [RD]) (n := 1) qq rfl (fun y hy => by rw [List.mem_singleton.1 hy]; exact wf_dead)
    clear b3 g4 g5 b7 b9 ga qa9 qs9 qq qp9 qc9 q9
    refine (step_any ua.heap.size ua.heap.size 1 none (some ⟨g, 0, none⟩) (some ⟨u3.heap.size, 0, none⟩) (some ⟨ud.heap.size, 0, none⟩) 0 0 1 1 1 1 1 1 [] [OA] [OS] ⟨false, key, v, 0⟩ [RD] ua (Lst.nil _ _ _ _) (sum_lst qaA) (lst_whole qsA rfl OS_wf) lq (Nat.le_refl _) (Nat.le_refl _) (by omega) one_check ⟨wk, wv, rfl⟩).mono ?_
    rintro e ub ⟨vv, rfl, ob, bb⟩
    rw [HR.out.1] at ob
    rw [HR.out.2]
    have bb := bw.trans (bb.mono bw.size)
    obtain ⟨A, c, rfl, _⟩ := OwnL.form ob
    obtain ⟨b, off, rfl, hb, hx⟩ := (OwnL.lst ob (fun y hy => by rw [List.mem_singleton.1 hy]; exact ⟨wk, hzw, rfl⟩)).at_ (i := 0) (Nat.succ_pos _)
    have hx : ub.rangeAt b (off + 0 * 4) [.bool false, .int .i64 key, .int .i64 z, .int .i64 0] := hx
    clear ob lq qaA qsA bw HR
    go_wp2_with (first
      | (refine wpList_alloc_blk (w := ub) rfl 26 rfl _ zero_rec ?_; intro uc qc gc zc)
      | (refine wpList_store_blk (w := uc) rfl 26 _ _ rfl ub.heap.size 4 rfl 26 _ #[.bool true, .int .i64 0, .int .i64 0, .int .i64 0] rfl qc info_rec rfl rfl (by kernel_rfl) ?_; intro ue qe ge ze))
    have be : Below ub.heap.size ub ue := ((Below.refl _ ub).grown gc (Nat.le_refl _) (by simp)).grown ge gc.size (fun r e => by cases e; exact Nat.le_refl _)
    have hx := range_below hx be hb
    have hbe := Nat.lt_of_lt_of_le hb be.size
    have be := bb.trans (be.mono bb.size)
    clear qc gc ge zc ze bb
    refine (awake15_any ue).mono ?_
    rintro e uf ⟨rfl, bf⟩
    have qf := qe.after bf
    have hx := range_below hx bf hbe
    have hbf := Nat.lt_of_lt_of_le hbe bf.size
    have bf := be.trans (bf.mono be.size)
    clear qe be
    go_wp2_with (first
      | (refine wpList_build_blk rfl 26 #[(1, .tmp 65), (2, .tmp 66)] rfl #[.bool false, .int .i64 other, .int .i64 x, .int .i64 0] (by kernel_rfl) ?_)
      | (refine wpList_alloc_blk (w := uf) rfl 26 rfl _ zero_rec ?_; intro ug qg gg zg)
      | (refine wpList_store_blk (w := ug) rfl 26 _ _ rfl uf.heap.size 4 rfl 26 _ #[.bool false, .int .i64 other, .int .i64 x, .int .i64 0] rfl qg info_rec rfl rfl (by kernel_rfl) ?_; intro uh qh gh zh; have bh : Below uf.heap.size uf uh := ((Below.refl _ uf).grown gg (Nat.le_refl _) (by simp)).grown gh gg.size (fun r e => by cases e; exact Nat.le_refl _))
      | (refine wpList_build_blk rfl 26 #[_] rfl #[.bool true, .int .i64 0, .int .i64 0, .int .i64 0] (by kernel_rfl) ?_)
      | (refine wpList_store_blk (w := uh) rfl 26 _ _ rfl uf.heap.size 4 rfl 26 _ #[.bool true, .int .i64 0, .int .i64 0, .int .i64 0] rfl qh info_rec rfl rfl (by kernel_rfl) ?_; intro ui ql gi zi; have bi := bh.grown gi bh.size (fun r e => by cases e; exact Nat.le_refl _); have hxl := range_below hx bi hbf; have qfl := qf.after bi; have bl := bf.trans (bi.mono bf.size))
      | (refine wpList_load_blk (w := ui) rfl 26 _ rfl uf.heap.size 4 rfl 26 _ ql _ Try.underlying26 rfl info_rec rfl ?_)
      | (refine wpList_run (w := ui) rfl (v := .pointer (some ⟨b, off + 0 * 4, none⟩)) (Held.y_addr (S := fun _ => True) rfl rfl rfl (run_addr_of (P := Try.prog) 27 26 b off 1 c 0 4 .i64 Try.underlying27 info_rec (by omega)) _ trivial) ?_)
      | (refine wpList_run (w := ui) rfl (v := .agg #[.bool false, .int .i64 key, .int .i64 z, .int .i64 0]) (y_load_range (S := fun W => W = ui) (n := 4) (cs := [.bool false, .int .i64 key, .int .i64 z, .int .i64 0]) rfl rfl Try.underlying26 rfl info_rec rfl (fun W hW => by rw [hW]; exact hxl) _ rfl) ?_)
      | (refine wpList_build_blk rfl 26 #[(1, .tmp 73), (2, .tmp 76)] rfl #[.bool false, .int .i64 key, .int .i64 z, .int .i64 0] (by kernel_rfl) ?_)
      | (refine wpList_load_blk (w := ui) rfl 26 _ rfl ub.heap.size 4 rfl 26 _ qfl _ Try.underlying26 rfl info_rec rfl ?_)
      | (refine wpList_run (w := ui) rfl (v := .bool true) (y_eqr (S := fun _ => True) rfl rfl rfl (by simp) _ trivial) ?_))
    go_ret
    exact ⟨rfl, bl⟩
theorem walk (a0 : Int) (a1 : Int) (a2 : Int) (a3 : Int) (a4 : Bool) (w : World) (w0 : (Lit.int .i64 a0).wf = true) (w1 : (Lit.int .i64 a1).wf = true) (w2 : (Lit.int .i64 a2).wf = true) (w3 : (Lit.int .i64 a3).wf = true) :
    Calls Try.prog 7 #[.int .i64 a0, .int .i64 a1, .int .i64 a2, .int .i64 a3, .bool a4] w fun e w' => e = .returned (.bool true) ∧ Below w.heap.size w w' := by
  exact start a0 a1 a2 a3 a4 w w0 w1 w2 w3
set_option maxRecDepth 100000 in
theorem lifted (os : Os) (started : os.Started) (H : Type) (enc : TypeId × Value → H) :
    ReturnsInHanded {} Try.checked os 7 .any (Rows.chainOneSpec.pre6 enc Try.prog Try.f7 Rows.chainOneRow.domain false) (Rows.chainOneSpec.post enc Try.prog Try.f7 false true false false) := by
  refine returnsInHanded_of_change (C := Try.checked) own started (by kernel_rfl) Try.func7
    (ChangeSpec.witness6 (enc := enc) (C := Try.checked) false ⟨#[], #[.int .i64 0, .int .i64 0, .int .i64 0, .int .i64 0, .bool false], []⟩ 8 (by kernel_rfl) (by kernel_rfl) (by kernel_rfl) (by kernel_rfl)) ?_
  intro W base args ds gs before hval0 hW hcnd _
  have hval : ∀ (j : Nat) t v, Try.f7.params[j]? = some t → args[j]? = some v → Value.okWide Try.prog W .any base t v := hval0
  have hW' := hW
  obtain ⟨p, q, hA0, hV, rfl, hfz, hnd⟩ := hW
  have hA : DataW.TrodAll enc Try.prog W 0 (fun _ => true) true Try.f7.params.toList args.toList ds p := hA0
  rw [Try.params7] at hA hval
  obtain ⟨v0, vs0, d0, ds0, p0, q0, hargs, rfl, rfl, h0, r0⟩ := trodAll_cons hA
  obtain ⟨v1, vs1, d1, ds1, p1, q1, rfl, rfl, rfl, h1, r1⟩ := trodAll_cons r0
  obtain ⟨v2, vs2, d2, ds2, p2, q2, rfl, rfl, rfl, h2, r2⟩ := trodAll_cons r1
  obtain ⟨v3, vs3, d3, ds3, p3, q3, rfl, rfl, rfl, h3, r3⟩ := trodAll_cons r2
  obtain ⟨v4, vs4, d4, ds4, p4, q4, rfl, rfl, rfl, h4, r4⟩ := trodAll_cons r3
  obtain ⟨rfl, rfl, rfl⟩ := trodAll_nil r4
  obtain rfl : args = #[v0, v1, v2, v3, v4] := by cases args; simp_all
  obtain ⟨rfl, rfl⟩ := trodVars_none hV
  obtain ⟨a0, rfl, rfl, rfl, w0⟩ := open_int Try.underlying2 (hval 0 2 v0 rfl rfl) h0
  obtain ⟨a1, rfl, rfl, rfl, w1⟩ := open_int Try.underlying2 (hval 1 2 v1 rfl rfl) h1
  obtain ⟨a2, rfl, rfl, rfl, w2⟩ := open_int Try.underlying2 (hval 2 2 v2 rfl rfl) h2
  obtain ⟨a3, rfl, rfl, rfl, w3⟩ := open_int Try.underlying2 (hval 3 2 v3 rfl rfl) h3
  obtain ⟨a4, rfl, rfl, rfl⟩ := open_bool Try.underlying4 (hval 4 4 v4 rfl rfl) h4
  clear hA0 hval0
  refine (walk a0 a1 a2 a3 a4 W w0 w1 w2 w3).mono fun e W' ⟨he, bel⟩ => ?_
  subst he
  exact ⟨_, rfl, _, _, _, [], _, [], hW', trodAll_mk1 (shut_bool Try.underlying4 _), (trodAll_cons_mk (shut_int Try.underlying2 w0) (trodAll_cons_mk (shut_int Try.underlying2 w1) (trodAll_cons_mk (shut_int Try.underlying2 w2) (trodAll_cons_mk (shut_int Try.underlying2 w3) (trodAll_cons_mk (shut_bool Try.underlying4 _) trodAll_mk0))))), rfl, bel.frame _, fun h => by cases h⟩
theorem over : Rows.chainOneRow.holds Try.pinned (OpenSpec.ofChange Rows.chainOneSpec) :=
  OpenClaim.holds_of_wide 7 Try.f7 rfl rfl rfl rfl rfl rfl rfl ⟨rfl, rfl, rfl, rfl, rfl⟩ rfl rfl rfl rfl rfl (by kernel_rfl) Try.func7 (by kernel_rfl)
    (of_decide_eq_true (by kernel_rfl)) (by unfold Func.isWrapper; first | (rw [if_pos (by decide +kernel)]; kernel_rfl) | (rw [if_neg (by decide +kernel)]; exact ⟨rfl, rfl⟩))
    (fun os started H enc _ => lifted os started H enc)
theorem proved : Rows.ChainOneSaid :=
  over
#print axioms proved
end Go.Proofs.Ytkiempdpfmolfaa.chainOne
