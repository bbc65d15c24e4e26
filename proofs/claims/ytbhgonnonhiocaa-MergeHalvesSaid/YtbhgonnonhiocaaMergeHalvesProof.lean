/-
  The law MergeHalves of package dominolaw14 returns true whatever two lists of records come in, by either order: behind a split no record of the second half stands ahead of one of the first half.
-/
import Derived.Test.YtbhgonnonhiocaaRows
import Derived.WalkKit
import Derived.ProofKit
import Derived.OpenShut
import Derived.ShutString
import Derived.ChangeOld
import Derived.Below
import Derived.Test.YtbhgonnonhiocaaB7
namespace Go.Proofs.Ytbhgonnonhiocaa.mergeHalves
open Go.ChangeShapes Go.WideShapes Go.ChangeAt Go.RowKit
open Go.ChangeMaps (open_string shut_string)
open Go.Shelf Go.Proofs.Ytbhgonnonhiocaa Mem Held Ct Rc Rs Sl Mg
theorem own : ownKnob Try.prog.godebug = none := by kernel_rfl
theorem laidOut : laidOutB Try.prog = true := by kernel_rfl
attribute [local irreducible] wpList wpListIn Calls
set_option maxRecDepth 100000 in
set_option maxHeartbeats 16000000 in
theorem start (A A2 : Option Addr) (n c n2 c2 : Nat) (rs rs2 : List R) (seq : Bool) (u : World) (h : Recs u u.heap.size A n rs) (h2 : Recs u u.heap.size A2 n2 rs2) :
    Calls Try.prog 6 #[.slice A n c, .slice A2 n2 c2, .bool seq] u fun e u' => e = .returned (.bool true) ∧ Below u.heap.size u u' := by
  by_cases hbig : n > 40 ∨ n2 > 40
  · have fin : Calls Try.prog 6 #[.slice A n c, .slice A2 n2 c2, .bool seq] u fun e u' => e = .returned (.bool true) ∧ Below u.heap.size u u' := by
      go_enter Try.func6, Try.ntmps6
      by_cases h1 : n > 40
      · have h1' : decide ((40 : Int) < (n : Int)) = true := by simp; omega
        go_wp2_with (refine Held.wpList_run (w := u) rfl (v := .bool true) (Held.y_gtr (S := fun _ => True) rfl rfl rfl h1' _ trivial) ?_; simp only [Act.put, Z1, Z2, Z3])
        refine (awake14_any u).mono ?_
        rintro e w1 ⟨rfl, b1⟩
        go_wp2_with fail
        go_ret
        exact ⟨rfl, b1⟩
      · have h1' : decide ((40 : Int) < (n : Int)) = false := by simp; omega
        have h2' : decide ((40 : Int) < (n2 : Int)) = true := by simp; omega
        go_wp2_with (first
          | (refine Held.wpList_run (w := u) rfl (v := .bool false) (Held.y_gtr (S := fun _ => True) rfl rfl rfl h1' _ trivial) ?_; simp only [Act.put, Z1, Z2, Z3])
          | (refine Held.wpList_run (w := u) rfl (v := .bool true) (Held.y_gtr (S := fun _ => True) rfl rfl rfl h2' _ trivial) ?_; simp only [Act.put, Z1, Z2, Z3]))
        refine (awake14_any u).mono ?_
        rintro e w1 ⟨rfl, b1⟩
        go_wp2_with fail
        go_ret
        exact ⟨rfl, b1⟩
    exact fin
  · have h1' : decide ((40 : Int) < (n : Int)) = false := by simp; omega
    have h2' : decide ((40 : Int) < (n2 : Int)) = false := by simp; omega
    have HL := Lib.hid h.1
    have HLT := Lib.hid (show (sortR seq (rs ++ rs2)).length = n + n2 by rw [sortR_length, List.length_append, h.1, h2.1])
    have HW := Lib.hid (show ∀ x ∈ sortR seq (rs ++ rs2), x.wf from fun x hx => by
      have hx := (sortR_perm seq (rs ++ rs2)).mem_iff.1 hx
      exact (List.mem_append.1 hx).elim (h.2.1 x) (h2.2.1 x))
    have HS := Lib.hid (fun i k (hi : i < n) (hk : k < n2) => Srt.two seq (sortR_sorts seq (rs ++ rs2)) (i := i) (j := n + k) (by omega) (by rw [HLT.out]; omega))
    have hsp := fun w => split_any u.heap.size u.heap.size A A2 n c n2 c2 rs rs2 seq w
    rw [HL.out] at hsp
    generalize sortR seq (rs ++ rs2) = S at HLT HW HS hsp
    have hn : n ≤ 40 := by omega
    have hn2 : n2 ≤ 40 := by omega
    go_enter Try.func6, Try.ntmps6
    go_wp2_with (first
      | (refine Held.wpList_run (w := u) rfl (v := .bool false) (Held.y_gtr (S := fun _ => True) rfl rfl rfl h1' _ trivial) ?_; simp only [Act.put, Z1, Z2, Z3])
      | (refine Held.wpList_run (w := u) rfl (v := .bool false) (Held.y_gtr (S := fun _ => True) rfl rfl rfl h2' _ trivial) ?_; simp only [Act.put, Z1, Z2, Z3]))
    refine (hsp u (recs_lst h) (recs_lst h2) (Nat.le_refl _) (Nat.le_refl _) (by omega) (by omega)).mono ?_
    rintro e u1 ⟨v, v2, rfl, o1, o2, b1⟩
    obtain ⟨Ax, n', cx, rfl, hn', _⟩ := OwnL.form2 o1
    obtain rfl : n = n' := by have := hn'.out; rw [List.length_take, HLT.out] at this; omega
    obtain ⟨Ay, n2', cy, rfl, hn2', _⟩ := OwnL.form2 o2
    obtain rfl : n2 = n2' := by have := hn2'.out; rw [List.length_drop, HLT.out] at this; omega
    have l1 := OwnL.lst o1 (fun x hx => HW.out x (List.mem_of_mem_take hx))
    have l2 := OwnL.lst o2 (fun x hx => HW.out x (List.mem_of_mem_drop hx))
    have HN := Lib.hid h.1
    clear hsp h h2 o1 o2 hn' hn2' hbig
    go_wp2_with fail
    refine (awake14_any u1).mono ?_
    rintro e u2 ⟨rfl, b2⟩
    have l1 := (Lst.below l1 b2).more b2.size
    have l2 := (Lst.below l2 b2).more b2.size
    have b2 := b1.trans (b2.mono b1.size)
    clear b1
    go_wp2_with fail
    go_loopw [9] (fun iv wr => ∃ i : Nat, i ≤ n ∧ iv = .int .i64 i ∧ Below u2.heap.size u2 wr) (fun i _ => n - (intOf i).toNat)
    case atStart => exact ⟨0, by omega, rfl, Below.refl _ _⟩
    case round =>
      obtain ⟨i, hi, rfl, hst⟩ := hrel
      by_cases hi2 : i < n
      · have hi2' : (i : Int) < (n : Int) := by omega
        go_wp2_with fail
        generalize wr = wo at *
        go_loopw [10] (fun kv wr => ∃ k : Nat, k ≤ n2 ∧ kv = .int .i64 k ∧ Below u2.heap.size u2 wr) (fun k _ => n2 - (intOf k).toNat)
        case atStart => exact ⟨0, by omega, rfl, hst⟩
        case round =>
          clear hst
          obtain ⟨k, hk, rfl, hst⟩ := hrel
          by_cases hk2 : k < n2
          · have hk2' : (k : Int) < (n2 : Int) := by omega
            obtain ⟨bx, ox, rfl, hbx, hx⟩ := (Lst.below l1 hst).at_ hi2
            obtain ⟨by_, oy, rfl, hby, hy⟩ := (Lst.below l2 hst).at_ hk2
            have hx : wr.rangeAt bx (ox + i * 4) ((S.take n).getD i R0).cells := hx
            have hy : wr.rangeAt by_ (oy + k * 4) ((S.drop n).getD k R0).cells := hy
            have gx : (S.take n).getD i R0 = S.getD i R0 := by rw [List.getD_eq_getElem?_getD, List.getElem?_take, if_pos hi2, List.getD_eq_getElem?_getD]
            have gy : (S.drop n).getD k R0 = S.getD (n + k) R0 := by rw [List.getD_eq_getElem?_getD, List.getElem?_drop, List.getD_eq_getElem?_getD]
            rw [gx] at hx
            rw [gy] at hy
            have hlead := HS.out i k hi2 hk2
            generalize S.getD i R0 = x at hx hlead
            generalize S.getD (n + k) R0 = y at hy hlead
            have hbx := Nat.lt_of_lt_of_le hbx hst.size
            have hby := Nat.lt_of_lt_of_le hby hst.size
            clear gx gy
            cases seq with
            | true =>
            have HB := fun W => rbefore_any y.d y.k y.v y.s x.d x.k x.v x.s W
            rw [show bef y.d y.k y.s x.d x.k x.s = false from hlead, show oneI false = 0 from rfl] at HB
            go_wp2_with fail
            refine wp_region_held (S := fun W => Below wr.heap.size wr W) (by kernel_rfl) ?_
            change wpAnyH _ _ _ _ _ _ _ _ wr.drew
            have c0_0 := (Below.refl wr.heap.size wr).drew
            refine Held.tk (v := .bool true) 0 (some 55) rfl (Held.y_move rfl rfl) c0_0 ?_
            simp only [Act.put, Z1, Z2, Z3]
            refine Held.tk (v := .bool true) 1 (some 56) rfl (Held.y_move rfl rfl) c0_0 ?_
            simp only [Act.put, Z1, Z2, Z3]
            refine Held.tk (v := .slice (some ⟨by_, oy, none⟩) n2 cy) 2 (some 57) rfl (Held.y_move rfl rfl) c0_0 ?_
            simp only [Act.put, Z1, Z2, Z3]
            refine Held.tk (v := .int .i64 (k : Int)) 3 (some 58) rfl (Held.y_move rfl rfl) c0_0 ?_
            simp only [Act.put, Z1, Z2, Z3]
            refine Held.tk (v := .pointer (some ⟨by_, oy + k * 4, none⟩)) 4 (some 59) rfl (Held.y_addr rfl rfl rfl (run_addr_of 22 26 by_ oy n2 cy k 4 .i64 Try.underlying22 (by kernel_rfl) hk2)) c0_0 ?_
            simp only [Act.put, Z1, Z2, Z3]
            refine Held.tk (v := .agg #[.bool y.d, .int .i64 y.k, .int .i64 y.v, .int .i64 y.s]) 5 (some 60) rfl (y_load_range (n := 4) (cs := y.cells) rfl rfl Try.underlying26 rfl (by kernel_rfl) rfl (fun W hW => range_below hy hW hby)) c0_0 ?_
            simp only [Act.put, Z1, Z2, Z3]
            refine Held.tk (v := .slice (some ⟨bx, ox, none⟩) n cx) 6 (some 61) rfl (Held.y_move rfl rfl) c0_0 ?_
            simp only [Act.put, Z1, Z2, Z3]
            refine Held.tk (v := .int .i64 (i : Int)) 7 (some 62) rfl (Held.y_move rfl rfl) c0_0 ?_
            simp only [Act.put, Z1, Z2, Z3]
            refine Held.tk (v := .pointer (some ⟨bx, ox + i * 4, none⟩)) 8 (some 63) rfl (Held.y_addr rfl rfl rfl (run_addr_of 22 26 bx ox n cx i 4 .i64 Try.underlying22 (by kernel_rfl) hi2)) c0_0 ?_
            simp only [Act.put, Z1, Z2, Z3]
            refine Held.tk (v := .agg #[.bool x.d, .int .i64 x.k, .int .i64 x.v, .int .i64 x.s]) 9 (some 64) rfl (y_load_range (n := 4) (cs := x.cells) rfl rfl Try.underlying26 rfl (by kernel_rfl) rfl (fun W hW => range_below hx hW hbx)) c0_0 ?_
            simp only [Act.put, Z1, Z2, Z3]
            refine Held.one 10 (by kernel_rfl) ?_
            refine Held.op_call 10 (some 65) 21 #[.agg #[.bool y.d, .int .i64 y.k, .int .i64 y.v, .int .i64 y.s], .agg #[.bool x.d, .int .i64 x.k, .int .i64 x.v, .int .i64 x.s]] rfl rfl rfl rfl (enters_of Try.func21 (by kernel_rfl) rfl) (by simp [Act.eval])
              (HB _) ?_
            rintro e w1 ⟨rfl, b1⟩
            have c0_1 := c0_0.trans (b1.mono c0_0.size)
            refine ⟨_, rfl, c0_1, ?_⟩
            simp only [Act.put, Z1, Z2, Z3]
            refine Held.tk (v := .bool false) 11 (some 66) rfl (Held.y_eqI rfl rfl rfl (by decide)) c0_1 ?_
            simp only [Act.put, Z1, Z2, Z3]
            refine Held.tk (v := .bool false) 12 (some 67) rfl (Held.y_pick rfl rfl rfl) c0_1 ?_
            simp only [Act.put, Z1, Z2, Z3]
            refine Held.tk (v := .bool false) 13 (some 68) rfl (Held.y_move rfl rfl) c0_1 ?_
            simp only [Act.put, Z1, Z2, Z3]
            refine Held.tk (v := .bool true) 14 (some 69) rfl (Held.y_move rfl rfl) c0_1 ?_
            simp only [Act.put, Z1, Z2, Z3]
            refine Held.tk (v := .bool false) 15 (some 70) rfl (Held.y_not rfl rfl rfl) c0_1 ?_
            simp only [Act.put, Z1, Z2, Z3]
            refine Held.tk (v := .bool false) 16 (some 71) rfl (Held.y_move rfl rfl) c0_1 ?_
            simp only [Act.put, Z1, Z2, Z3]
            refine Held.skip 17 (some 72) rfl rfl (by kernel_rfl) (by kernel_rfl) (by kernel_rfl) (fun _ _ _ h => h) rfl c0_1 ?_
            simp only [Act.put, Z1, Z2, Z3]
            refine Held.skip 18 (some 73) rfl rfl (by kernel_rfl) (by kernel_rfl) (by kernel_rfl) (fun _ _ _ h => h) rfl c0_1 ?_
            simp only [Act.put, Z1, Z2, Z3]
            refine Held.skip 19 (some 74) rfl rfl (by kernel_rfl) (by kernel_rfl) (by kernel_rfl) (fun _ _ _ h => h) rfl c0_1 ?_
            simp only [Act.put, Z1, Z2, Z3]
            refine Held.skip 20 (some 75) rfl rfl (by kernel_rfl) (by kernel_rfl) (by kernel_rfl) (fun _ _ _ h => h) rfl c0_1 ?_
            simp only [Act.put, Z1, Z2, Z3]
            refine Held.skip 21 (some 76) rfl rfl (by kernel_rfl) (by kernel_rfl) (by kernel_rfl) (fun _ _ _ h => h) rfl c0_1 ?_
            simp only [Act.put, Z1, Z2, Z3]
            refine Held.skip 22 (some 77) rfl rfl (by kernel_rfl) (by kernel_rfl) (by kernel_rfl) (fun _ _ _ h => h) rfl c0_1 ?_
            simp only [Act.put, Z1, Z2, Z3]
            refine Held.skip 23 (some 78) rfl rfl (by kernel_rfl) (by kernel_rfl) (by kernel_rfl) (fun _ _ _ h => h) rfl c0_1 ?_
            simp only [Act.put, Z1, Z2, Z3]
            refine Held.skip 24 (some 79) rfl rfl (by kernel_rfl) (by kernel_rfl) (by kernel_rfl) (fun _ _ _ h => h) rfl c0_1 ?_
            simp only [Act.put, Z1, Z2, Z3]
            refine Held.skip 25 (some 80) rfl rfl (by kernel_rfl) (by kernel_rfl) (by kernel_rfl) (fun _ _ _ h => h) rfl c0_1 ?_
            simp only [Act.put, Z1, Z2, Z3]
            refine Held.skip 26 (some 81) rfl rfl (by kernel_rfl) (by kernel_rfl) (by kernel_rfl) (fun _ _ _ h => h) rfl c0_1 ?_
            simp only [Act.put, Z1, Z2, Z3]
            refine Held.tk (v := .bool false) 27 (some 82) rfl (Held.y_pickF rfl rfl rfl) c0_1 ?_
            simp only [Act.put, Z1, Z2, Z3]
            refine Held.tk (v := .bool false) 28 (some 83) rfl (Held.y_pickF rfl rfl rfl) c0_1 ?_
            simp only [Act.put, Z1, Z2, Z3]
            refine wpAnyH_done (by kernel_rfl) ?_ _
            have dz := hst.trans (c0_1.mono hst.size)
            go_wp2_with fail
            go_roundw
            case rel => exact ⟨k + 1, by omega, by go_num, dz⟩
            case measure => simp [intOf]; omega
            | false =>
            have HA := fun W => rahead_any y.d y.k y.v y.s x.d x.k x.v x.s W
            rw [show ahd y.d y.k x.d x.k = false from hlead, show oneI false = 0 from rfl] at HA
            go_wp2_with fail
            refine wp_region_held (S := fun W => Below wr.heap.size wr W) (by kernel_rfl) ?_
            change wpAnyH _ _ _ _ _ _ _ _ wr.drew
            have c0_0 := (Below.refl wr.heap.size wr).drew
            refine Held.tk (v := .bool false) 0 (some 55) rfl (Held.y_move rfl rfl) c0_0 ?_
            simp only [Act.put, Z1, Z2, Z3]
            refine Held.tk (v := .bool false) 1 (some 56) rfl (Held.y_move rfl rfl) c0_0 ?_
            simp only [Act.put, Z1, Z2, Z3]
            refine Held.skip 2 (some 57) rfl rfl (by kernel_rfl) (by kernel_rfl) (by kernel_rfl) (fun _ _ _ h => h) rfl c0_0 ?_
            simp only [Act.put, Z1, Z2, Z3]
            refine Held.skip 3 (some 58) rfl rfl (by kernel_rfl) (by kernel_rfl) (by kernel_rfl) (fun _ _ _ h => h) rfl c0_0 ?_
            simp only [Act.put, Z1, Z2, Z3]
            refine Held.skip 4 (some 59) rfl rfl (by kernel_rfl) (by kernel_rfl) (by kernel_rfl) (fun _ _ _ h => h) rfl c0_0 ?_
            simp only [Act.put, Z1, Z2, Z3]
            refine Held.skip 5 (some 60) rfl rfl (by kernel_rfl) (by kernel_rfl) (by kernel_rfl) (fun _ _ _ h => h) rfl c0_0 ?_
            simp only [Act.put, Z1, Z2, Z3]
            refine Held.skip 6 (some 61) rfl rfl (by kernel_rfl) (by kernel_rfl) (by kernel_rfl) (fun _ _ _ h => h) rfl c0_0 ?_
            simp only [Act.put, Z1, Z2, Z3]
            refine Held.skip 7 (some 62) rfl rfl (by kernel_rfl) (by kernel_rfl) (by kernel_rfl) (fun _ _ _ h => h) rfl c0_0 ?_
            simp only [Act.put, Z1, Z2, Z3]
            refine Held.skip 8 (some 63) rfl rfl (by kernel_rfl) (by kernel_rfl) (by kernel_rfl) (fun _ _ _ h => h) rfl c0_0 ?_
            simp only [Act.put, Z1, Z2, Z3]
            refine Held.skip 9 (some 64) rfl rfl (by kernel_rfl) (by kernel_rfl) (by kernel_rfl) (fun _ _ _ h => h) rfl c0_0 ?_
            simp only [Act.put, Z1, Z2, Z3]
            refine Held.skip 10 (some 65) rfl rfl (by kernel_rfl) (by kernel_rfl) (by kernel_rfl) (fun _ _ _ h => h) rfl c0_0 ?_
            simp only [Act.put, Z1, Z2, Z3]
            refine Held.skip 11 (some 66) rfl rfl (by kernel_rfl) (by kernel_rfl) (by kernel_rfl) (fun _ _ _ h => h) rfl c0_0 ?_
            simp only [Act.put, Z1, Z2, Z3]
            refine Held.tk (v := .bool false) 12 (some 67) rfl (Held.y_pickF rfl rfl rfl) c0_0 ?_
            simp only [Act.put, Z1, Z2, Z3]
            refine Held.tk (v := .bool false) 13 (some 68) rfl (Held.y_move rfl rfl) c0_0 ?_
            simp only [Act.put, Z1, Z2, Z3]
            refine Held.tk (v := .bool false) 14 (some 69) rfl (Held.y_move rfl rfl) c0_0 ?_
            simp only [Act.put, Z1, Z2, Z3]
            refine Held.tk (v := .bool true) 15 (some 70) rfl (Held.y_not rfl rfl rfl) c0_0 ?_
            simp only [Act.put, Z1, Z2, Z3]
            refine Held.tk (v := .bool true) 16 (some 71) rfl (Held.y_move rfl rfl) c0_0 ?_
            simp only [Act.put, Z1, Z2, Z3]
            refine Held.tk (v := .slice (some ⟨by_, oy, none⟩) n2 cy) 17 (some 72) rfl (Held.y_move rfl rfl) c0_0 ?_
            simp only [Act.put, Z1, Z2, Z3]
            refine Held.tk (v := .int .i64 (k : Int)) 18 (some 73) rfl (Held.y_move rfl rfl) c0_0 ?_
            simp only [Act.put, Z1, Z2, Z3]
            refine Held.tk (v := .pointer (some ⟨by_, oy + k * 4, none⟩)) 19 (some 74) rfl (Held.y_addr rfl rfl rfl (run_addr_of 22 26 by_ oy n2 cy k 4 .i64 Try.underlying22 (by kernel_rfl) hk2)) c0_0 ?_
            simp only [Act.put, Z1, Z2, Z3]
            refine Held.tk (v := .agg #[.bool y.d, .int .i64 y.k, .int .i64 y.v, .int .i64 y.s]) 20 (some 75) rfl (y_load_range (n := 4) (cs := y.cells) rfl rfl Try.underlying26 rfl (by kernel_rfl) rfl (fun W hW => range_below hy hW hby)) c0_0 ?_
            simp only [Act.put, Z1, Z2, Z3]
            refine Held.tk (v := .slice (some ⟨bx, ox, none⟩) n cx) 21 (some 76) rfl (Held.y_move rfl rfl) c0_0 ?_
            simp only [Act.put, Z1, Z2, Z3]
            refine Held.tk (v := .int .i64 (i : Int)) 22 (some 77) rfl (Held.y_move rfl rfl) c0_0 ?_
            simp only [Act.put, Z1, Z2, Z3]
            refine Held.tk (v := .pointer (some ⟨bx, ox + i * 4, none⟩)) 23 (some 78) rfl (Held.y_addr rfl rfl rfl (run_addr_of 22 26 bx ox n cx i 4 .i64 Try.underlying22 (by kernel_rfl) hi2)) c0_0 ?_
            simp only [Act.put, Z1, Z2, Z3]
            refine Held.tk (v := .agg #[.bool x.d, .int .i64 x.k, .int .i64 x.v, .int .i64 x.s]) 24 (some 79) rfl (y_load_range (n := 4) (cs := x.cells) rfl rfl Try.underlying26 rfl (by kernel_rfl) rfl (fun W hW => range_below hx hW hbx)) c0_0 ?_
            simp only [Act.put, Z1, Z2, Z3]
            refine Held.one 25 (by kernel_rfl) ?_
            refine Held.op_call 25 (some 80) 22 #[.agg #[.bool y.d, .int .i64 y.k, .int .i64 y.v, .int .i64 y.s], .agg #[.bool x.d, .int .i64 x.k, .int .i64 x.v, .int .i64 x.s]] rfl rfl rfl rfl (enters_of Try.func22 (by kernel_rfl) rfl) (by simp [Act.eval])
              (HA _) ?_
            rintro e w1 ⟨rfl, b1⟩
            have c0_1 := c0_0.trans (b1.mono c0_0.size)
            refine ⟨_, rfl, c0_1, ?_⟩
            simp only [Act.put, Z1, Z2, Z3]
            refine Held.tk (v := .bool false) 26 (some 81) rfl (Held.y_eqI rfl rfl rfl (by decide)) c0_1 ?_
            simp only [Act.put, Z1, Z2, Z3]
            refine Held.tk (v := .bool false) 27 (some 82) rfl (Held.y_pick rfl rfl rfl) c0_1 ?_
            simp only [Act.put, Z1, Z2, Z3]
            refine Held.tk (v := .bool false) 28 (some 83) rfl (Held.y_pickF rfl rfl rfl) c0_1 ?_
            simp only [Act.put, Z1, Z2, Z3]
            refine wpAnyH_done (by kernel_rfl) ?_ _
            have dz := hst.trans (c0_1.mono hst.size)
            go_wp2_with fail
            go_roundw
            case rel => exact ⟨k + 1, by omega, by go_num, dz⟩
            case measure => simp [intOf]; omega
          · obtain rfl : k = n2 := by omega
            go_wp2_with fail
            go_roundw
            case rel => exact ⟨i + 1, by omega, by go_num, hst⟩
            case measure => simp [intOf]; omega
      · obtain rfl : i = n := by omega
        go_wp2_with fail
        go_ret
        exact ⟨rfl, b2.trans (hst.mono b2.size)⟩
theorem walk (A0 : Option Addr) (m0 c0 : Nat) (rs0 : List Rs.R) (A1 : Option Addr) (m1 c1 : Nat) (rs1 : List Rs.R) (a2 : Bool) (w : World) (hr0 : Rs.Recs w w.heap.size A0 m0 rs0) (hc0 : m0 ≤ c0 ∧ c0 ≤ maxLen) (hr1 : Rs.Recs w w.heap.size A1 m1 rs1) (hc1 : m1 ≤ c1 ∧ c1 ≤ maxLen) :
    Calls Try.prog 6 #[.slice A0 m0 c0, .slice A1 m1 c1, .bool a2] w fun e w' => e = .returned (.bool true) ∧ Below w.heap.size w w' := by
  exact start A0 A1 m0 c0 m1 c1 rs0 rs1 a2 w hr0 hr1
set_option maxRecDepth 100000 in
theorem lifted (os : Os) (started : os.Started) (H : Type) (enc : TypeId × Value → H) :
    ReturnsInHanded {} Try.checked os 6 .any (Rows.mergeHalvesSpec.pre6 enc Try.prog Try.f6 Rows.mergeHalvesRow.domain false) (Rows.mergeHalvesSpec.post enc Try.prog Try.f6 false true false false) := by
  refine returnsInHanded_of_change (C := Try.checked) own started (by kernel_rfl) Try.func6
    (ChangeSpec.witness6 (enc := enc) (C := Try.checked) false ⟨#[], #[.slice none 0 0, .slice none 0 0, .bool false], []⟩ 8 (by kernel_rfl) (by kernel_rfl) (by kernel_rfl) (by kernel_rfl)) ?_
  intro W base args ds gs before hval0 hW hcnd _
  have hval : ∀ (j : Nat) t v, Try.f6.params[j]? = some t → args[j]? = some v → Value.okWide Try.prog W .any base t v := hval0
  have hW' := hW
  obtain ⟨p, q, hA0, hV, rfl, hfz, hnd⟩ := hW
  have hA : DataW.TrodAll enc Try.prog W 0 (fun _ => true) true Try.f6.params.toList args.toList ds p := hA0
  rw [Try.params6] at hA hval
  obtain ⟨v0, vs0, d0, ds0, p0, q0, hargs, rfl, rfl, h0, r0⟩ := trodAll_cons hA
  obtain ⟨v1, vs1, d1, ds1, p1, q1, rfl, rfl, rfl, h1, r1⟩ := trodAll_cons r0
  obtain ⟨v2, vs2, d2, ds2, p2, q2, rfl, rfl, rfl, h2, r2⟩ := trodAll_cons r1
  obtain ⟨rfl, rfl, rfl⟩ := trodAll_nil r2
  obtain rfl : args = #[v0, v1, v2] := by cases args; simp_all
  obtain ⟨rfl, rfl⟩ := trodVars_none hV
  obtain ⟨A0, m0, c0, rfl⟩ := okWide_slice Try.underlying22 (hval 0 22 v0 rfl rfl)
  have kk0 := h0
  have lt0 : ∀ x ∈ p0, x.block < W.heap.size := by obtain ⟨m, hm⟩ := kk0; exact DataW.trod_lt m _ _ _ hm
  obtain ⟨rs0, hr0, hc0⟩ := Rs.open_recs h0
  obtain ⟨A1, m1, c1, rfl⟩ := okWide_slice Try.underlying22 (hval 1 22 v1 rfl rfl)
  have kk1 := h1
  have lt1 : ∀ x ∈ p1, x.block < W.heap.size := by obtain ⟨m, hm⟩ := kk1; exact DataW.trod_lt m _ _ _ hm
  obtain ⟨rs1, hr1, hc1⟩ := Rs.open_recs h1
  obtain ⟨a2, rfl, rfl, rfl⟩ := open_bool Try.underlying4 (hval 2 4 v2 rfl rfl) h2
  clear hA0 hval0
  refine (walk A0 m0 c0 rs0 A1 m1 c1 rs1 a2 W hr0 hc0 hr1 hc1).mono fun e W' ⟨he, bel⟩ => ?_
  subst he
  exact ⟨_, rfl, _, _, _, [], _, [], hW', trodAll_mk1 (shut_bool Try.underlying4 _), (trodAll_cons_mk (Below.trod laidOut (by kernel_rfl) (of_decide_eq_true (by kernel_rfl)) kk0 bel lt0) (trodAll_cons_mk (Below.trod laidOut (by kernel_rfl) (of_decide_eq_true (by kernel_rfl)) kk1 bel lt1) (trodAll_cons_mk (shut_bool Try.underlying4 _) trodAll_mk0))), rfl, bel.frame _, fun h => by cases h⟩
theorem over : Rows.mergeHalvesRow.holds Try.pinned (OpenSpec.ofChange Rows.mergeHalvesSpec) :=
  OpenClaim.holds_of_wide 6 Try.f6 rfl rfl rfl rfl rfl rfl rfl ⟨rfl, rfl, rfl, rfl, rfl⟩ rfl rfl rfl rfl rfl (by kernel_rfl) Try.func6 (by kernel_rfl)
    (of_decide_eq_true (by kernel_rfl)) (by unfold Func.isWrapper; first | (rw [if_pos (by decide +kernel)]; kernel_rfl) | (rw [if_neg (by decide +kernel)]; exact ⟨rfl, rfl⟩))
    (fun os started H enc _ => lifted os started H enc)
theorem proved : Rows.MergeHalvesSaid :=
  over
#print axioms proved
end Go.Proofs.Ytbhgonnonhiocaa.mergeHalves
