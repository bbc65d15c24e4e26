/-
  The law ChainSums of package dominolaw15 returns true for every list of records: behind sorted records, and a dead one, each key has come out once, with the sum of all its values.
-/
import Derived.Test.YtkiempdpfmolfaaRows
import Derived.WalkKit
import Derived.ProofKit
import Derived.OpenShut
import Derived.ShutString
import Derived.ChangeOld
import Derived.Below
import Derived.Test.YtkiempdpfmolfaaB10
import Derived.Test.YtkiempdpfmolfaaB11
import Derived.Test.YtkiempdpfmolfaaB9
namespace Go.Proofs.Ytkiempdpfmolfaa.chainSums
open Go.ChangeShapes Go.WideShapes Go.ChangeAt Go.RowKit
open Go.ChangeMaps (open_string shut_string)
open Go.Shelf Go.Proofs.Ytkiempdpfmolfaa Mem Held Ct Rc Rs Sl Vm Mg Mq Cn
theorem own : ownKnob Try.prog.godebug = none := by kernel_rfl
theorem laidOut : laidOutB Try.prog = true := by kernel_rfl
attribute [local irreducible] wpList wpListIn Calls
theorem zero_i (w : World) : (zeroValue 2).run Try.prog w = .ok (.int .i64 0) w := by kernel_rfl
set_option maxRecDepth 100000 in
set_option maxHeartbeats 16000000 in
theorem start (A : Option Addr) (n c : Nat) (rs : List R) (w : World) (hr : Recs w w.heap.size A n rs) :
    Calls Try.prog 5 #[.slice A n c] w fun e w' => e = .returned (.bool true) ∧ Below w.heap.size w w' := by
  by_cases hbig : n > 60
  · have h1' : decide ((60 : Int) < (n : Int)) = true := by simp; omega
    go_enter Try.func5, Try.ntmps5
    go_wp2_with (refine Held.wpList_run (w := w) rfl (v := .bool true) (Held.y_gtr (S := fun _ => True) rfl rfl rfl h1' _ trivial) ?_; simp only [Act.put, Z1, Z2, Z3])
    refine (awake15_any w).mono ?_
    rintro e w1 ⟨rfl, b1⟩
    go_wp2_with fail
    go_ret
    exact ⟨rfl, b1⟩
  have h1' : decide ((60 : Int) < (n : Int)) = false := by simp; omega
  have ln : n ≤ 60 := by omega
  clear hbig
  have HL := Lib.hid hr.1
  have HSW := Lib.hid (show ∀ x ∈ sortR true rs, x.wf from fun x hx => hr.2.1 x ((sortR_perm true rs).mem_iff.1 hx))
  have HSL := Lib.hid (show (sortR true rs).length = n by rw [sortR_length, hr.1])
  have HOUT := Lib.hid (sums_out (sortR_perm true rs) (srt_ks (sortR_sorts true rs)) HSW.out)
  have HXW := Lib.hid (outs_wf addF_wf lastG_wf RD (sortR true rs ++ [RD]) wf_dead (fun x hx => (List.mem_append.1 hx).elim (HSW.out x) (fun h => by rw [List.mem_singleton.1 h]; exact wf_dead)))
  have HXL := Lib.hid (show (outs addF lastG RD (sortR true rs ++ [RD])).length = n + 1 by rw [outs_length, List.length_append, HSL.out]; rfl)
  have HSN := Lib.hid (fun i (hi : i < n) => show totals (rs.take (i + 1)) [] = if (rs.getD i R0).d = true then totals (rs.take i) [] else put (rs.getD i R0).k (wrap64 (Mq.look (totals (rs.take i) []) (rs.getD i R0).k + (rs.getD i R0).v)) (totals (rs.take i) []) by
    rw [take_snoc (by rw [hr.1]; exact hi), totals_snoc])
  go_enter Try.func5, Try.ntmps5
  go_wp2_with (first
    | (refine Held.wpList_run (w := w) rfl (v := .bool false) (Held.y_gtr (S := fun _ => True) rfl rfl rfl h1' _ trivial) ?_; simp only [Act.put, Z1, Z2, Z3])
    | (refine wpList_makeMap_mp (w := w) rfl 40 2 rfl Try.underlying40 ?_; intro u1 m1 g1 z1))
  have b1 : Below w.heap.size w u1 := (Below.refl _ w).grown g1 (Nat.le_refl _) (by simp)
  clear g1 z1
  go_loopw [4] (fun t wr => ∃ i m0 : Nat, i ≤ n ∧ m0 ≤ i ∧ t = .int .i64 i ∧ Mp Try.prog 2 wr w.heap.size m0 (totals (rs.take i) []) ∧ Below w.heap.size w wr) (fun t _ => n - (intOf t).toNat)
  case atStart => exact ⟨0, 0, by omega, by omega, rfl, by rw [List.take_zero]; exact m1, b1⟩
  case round =>
    clear m1 b1
    obtain ⟨i, m0, hi, hm0, rfl, mi, bw⟩ := hrel
    by_cases hlt : i < n
    · obtain ⟨b, off, rfl, hb, hx⟩ := (Recs.below hr bw).at_ hlt
      have hxw := (Recs.below hr bw).wf_at hlt
      have HS1 := Lib.hid (HSN.out i hlt)
      generalize totals (rs.take i) [] = M at mi HS1
      generalize rs.getD i R0 = x at hx hxw HS1
      obtain ⟨xd, xk, xv, xs⟩ := x
      obtain ⟨wxk, wxv, _⟩ : (Lit.int .i64 xk).wf = true ∧ (Lit.int .i64 xv).wf = true ∧ (Lit.int .i64 xs).wf = true := hxw
      have cd : wr.cell? ⟨b, off + i * 4 + 0, none⟩ = some (.bool xd) := hx 0 _ rfl
      have cd2 : wr.cell? ⟨b, off + i * 4, none⟩ = some (.bool xd) := cd
      have ck : wr.cell? ⟨b, off + i * 4 + 1, none⟩ = some (.int .i64 xk) := hx 1 _ rfl
      have cv : wr.cell? ⟨b, off + i * 4 + 2, none⟩ = some (.int .i64 xv) := hx 2 _ rfl
      have hbm : ¬ b = w.heap.size := by omega
      have hlt' : (i : Int) < (n : Int) := by omega
      have hi0 : (0 : Int) ≤ (i : Int) := by omega
      clear hx cd
      cases xd
      · have HS2 := Lib.hid (HS1.out.trans (if_neg (by simp)))
        go_wp2_with (first
          | (refine wpList_run (w := wr) rfl (v := .pointer (some ⟨b, off + i * 4, none⟩)) (Held.y_addr (S := fun _ => True) rfl rfl rfl (run_addr_of (P := Try.prog) 27 26 b off n c i 4 .i64 Try.underlying27 info_rec hlt) _ trivial) ?_)
          | (refine wpList_run (w := wr) rfl (v := .pointer (some ⟨b, off + i * 4, none⟩)) (Held.y_field (S := fun _ => True) (k := 0) (s := 0) rfl rfl Try.underlying26 rfl (by kernel_rfl) rfl _ trivial) ?_))
        refine wp_region_held (S := fun V => Only (fun g => g = w.heap.size) wr V) (by kernel_rfl) ?_
        change wpAnyH _ _ _ _ _ _ _ _ wr.drew
        have c0_0 : Only (fun g => g = w.heap.size) wr wr.drew := ⟨Nat.le_refl _, fun _ _ _ h _ => h⟩
        refine Held.tk (v := .map (some w.heap.size)) 0 (some 27) rfl (Held.y_move rfl rfl) c0_0 ?_
        simp only [Act.put, Z1, Z2, Z3]
        refine Held.tk (v := .slice (some ⟨b, off, none⟩) n c) 1 (some 28) rfl (Held.y_move rfl rfl) c0_0 ?_
        simp only [Act.put, Z1, Z2, Z3]
        refine Held.tk (v := .int .i64 (i : Int)) 2 (some 29) rfl (Held.y_move rfl rfl) c0_0 ?_
        simp only [Act.put, Z1, Z2, Z3]
        refine Held.tk (v := .pointer (some ⟨b, off + i * 4, none⟩)) 3 (some 30) rfl (Held.y_addr rfl rfl rfl (run_addr_of (P := Try.prog) 27 26 b off n c i 4 .i64 Try.underlying27 info_rec hlt)) c0_0 ?_
        simp only [Act.put, Z1, Z2, Z3]
        refine Held.tk (v := .pointer (some ⟨b, off + i * 4 + 1, none⟩)) 4 (some 31) rfl (Held.y_field (k := 1) (s := 0) rfl rfl Try.underlying26 rfl (by kernel_rfl) rfl) c0_0 ?_
        simp only [Act.put, Z1, Z2, Z3]
        refine Held.tk (v := .int .i64 xk) 5 (some 32) rfl (Held.y_load rfl rfl (by kernel_rfl) (fun X hX => hX.cell (by exact hbm) ck)) c0_0 ?_
        simp only [Act.put, Z1, Z2, Z3]
        refine Held.tk (v := .map (some w.heap.size)) 6 (some 33) rfl (Held.y_move rfl rfl) c0_0 ?_
        simp only [Act.put, Z1, Z2, Z3]
        refine Held.tk (v := .slice (some ⟨b, off, none⟩) n c) 7 (some 34) rfl (Held.y_move rfl rfl) c0_0 ?_
        simp only [Act.put, Z1, Z2, Z3]
        refine Held.tk (v := .int .i64 (i : Int)) 8 (some 35) rfl (Held.y_move rfl rfl) c0_0 ?_
        simp only [Act.put, Z1, Z2, Z3]
        refine Held.tk (v := .pointer (some ⟨b, off + i * 4, none⟩)) 9 (some 36) rfl (Held.y_addr rfl rfl rfl (run_addr_of (P := Try.prog) 27 26 b off n c i 4 .i64 Try.underlying27 info_rec hlt)) c0_0 ?_
        simp only [Act.put, Z1, Z2, Z3]
        refine Held.tk (v := .pointer (some ⟨b, off + i * 4 + 1, none⟩)) 10 (some 37) rfl (Held.y_field (k := 1) (s := 0) rfl rfl Try.underlying26 rfl (by kernel_rfl) rfl) c0_0 ?_
        simp only [Act.put, Z1, Z2, Z3]
        refine Held.tk (v := .int .i64 xk) 11 (some 38) rfl (Held.y_load rfl rfl (by kernel_rfl) (fun X hX => hX.cell (by exact hbm) ck)) c0_0 ?_
        simp only [Act.put, Z1, Z2, Z3]
        refine Held.tk (v := .slice (some ⟨b, off, none⟩) n c) 13 (some 40) rfl (Held.y_move rfl rfl) c0_0 ?_
        simp only [Act.put, Z1, Z2, Z3]
        refine Held.tk (v := .int .i64 (i : Int)) 14 (some 41) rfl (Held.y_move rfl rfl) c0_0 ?_
        simp only [Act.put, Z1, Z2, Z3]
        refine Held.tk (v := .pointer (some ⟨b, off + i * 4, none⟩)) 15 (some 42) rfl (Held.y_addr rfl rfl rfl (run_addr_of (P := Try.prog) 27 26 b off n c i 4 .i64 Try.underlying27 info_rec hlt)) c0_0 ?_
        simp only [Act.put, Z1, Z2, Z3]
        refine Held.tk (v := .pointer (some ⟨b, off + i * 4 + 2, none⟩)) 16 (some 43) rfl (Held.y_field (k := 2) (s := 0) rfl rfl Try.underlying26 rfl (by kernel_rfl) rfl) c0_0 ?_
        simp only [Act.put, Z1, Z2, Z3]
        refine Held.tk (v := .int .i64 xv) 17 (some 44) rfl (Held.y_load rfl rfl (by kernel_rfl) (fun X hX => hX.cell (by exact hbm) cv)) c0_0 ?_
        simp only [Act.put, Z1, Z2, Z3]
        refine Held.one 12 (by kernel_rfl) ?_
        refine op_look (K := 2) (T := 40) 12 (some 39) xk rfl rfl rfl rfl rfl rfl wxk Try.underlying2 Try.underlying40 zero_i (show Mp Try.prog 2 wr.drew w.heap.size m0 M from mi) ?_
        refine ⟨c0_0, ?_⟩
        simp only [Act.put, Z1, Z2, Z3]
        refine Held.tk (v := .int .i64 (wrap64 (Mq.look M xk + xv))) 18 (some 45) rfl (Held.y_int rfl rfl rfl (Held.run_add 2 .i64 (w64 _))) c0_0 ?_
        simp only [Act.put, Z1, Z2, Z3]
        refine Held.one 19 (by kernel_rfl) ?_
        refine op_mapUpdate (K := 2) (T := 40) 19 none xk (wrap64 (Mq.look M xk + xv)) rfl rfl rfl rfl rfl rfl rfl wxk (wrap64_wf _) Try.underlying2 Try.underlying40 (show Mp Try.prog 2 wr.drew w.heap.size m0 M from mi) (by omega) ?_
        intro w2 m2 g2
        refine ⟨c0_0.trans (Only.of_grown g2 (fun r e => by cases e; rfl)), ?_⟩
        simp only [Act.put]
        refine wpAnyH_done (by kernel_rfl) ?_ _
        rw [← show totals (rs.take (i + 1)) [] = put xk (wrap64 (Mq.look M xk + xv)) M from HS2.out] at m2
        have b2 := (bw.drew).grown g2 bw.size (fun r e => by cases e; exact Nat.le_refl _)
        go_wp2_with fail
        go_roundw
        case rel => exact ⟨i + 1, m0 + 1, by omega, by omega, by go_num, m2, b2⟩
        case measure => simp [intOf]; omega
      · have HS2 := Lib.hid (HS1.out.trans (if_pos rfl))
        go_wp2_with (first
          | (refine wpList_run (w := wr) rfl (v := .pointer (some ⟨b, off + i * 4, none⟩)) (Held.y_addr (S := fun _ => True) rfl rfl rfl (run_addr_of (P := Try.prog) 27 26 b off n c i 4 .i64 Try.underlying27 info_rec hlt) _ trivial) ?_)
          | (refine wpList_run (w := wr) rfl (v := .pointer (some ⟨b, off + i * 4, none⟩)) (Held.y_field (S := fun _ => True) (k := 0) (s := 0) rfl rfl Try.underlying26 rfl (by kernel_rfl) rfl _ trivial) ?_))
        go_roundw
        case rel => exact ⟨i + 1, m0, by omega, by omega, by go_num, by rw [HS2.out]; exact mi, bw⟩
        case measure => simp [intOf]; omega
    · have hin : i = n := by omega
      subst hin
      rw [List.take_of_length_le (by rw [HL.out]; exact Nat.le_refl _)] at mi
      have mlt := mi.lt
      go_wp2_with fail
      refine (sum_any _).mono ?_
      rintro e u2 ⟨g, rfl, q2, hg, b2⟩
      have mi := mi.below b2
      have bw2 := bw.trans (b2.mono bw.size)
      go_wp2_with (refine wpList_build_blk rfl 26 #[_] rfl #[.bool true, .int .i64 0, .int .i64 0, .int .i64 0] (by kernel_rfl) ?_)
      refine (rsort_any w.heap.size A i c rs true u2 (recs_lst (Recs.below hr bw2)) bw2.size (by omega)).mono ?_
      rintro e u3 ⟨vs, rfl, os, b3⟩
      have mi := mi.below b3
      have q3 := q2.after b3
      have hsz2 : w.heap.size < u2.heap.size := Nat.lt_of_lt_of_le mlt b2.size
      have bw3 := bw2.trans (b3.mono bw2.size)
      obtain ⟨As, ns, cs, rfl, HNS, _, _⟩ := OwnL.form2 os
      have hns : ns = i := by have := HNS.out; rw [HSL.out] at this; exact this.symm
      subst hns
      have hgs : g < u2.heap.size := q2.lt
      have HB23 := Lib.hid b3.size
      clear b2 b3 bw bw2
      go_wp2_with (first
        | (refine wpList_build_blk rfl 26 #[_] rfl #[.bool true, .int .i64 0, .int .i64 0, .int .i64 0] (by kernel_rfl) ?_)
        | (refine wpList_build_lst (w := u3) (k := kRec) rfl 27 26 1 _ rfl Try.underlying27 _ 32 info_kRec rfl [RD] rfl (by kernel_rfl) (by omega) (by decide) ?_; intro u4 q4 g4 z4; have b4 : Below u3.heap.size u3 u4 := (Below.refl _ u3).grown g4 (Nat.le_refl _) (by simp); have os := OwnL.below os b4; have mi := mi.below b4; have q3 := q3.after b4; have bw4 := bw3.trans (b4.mono bw3.size); have HB34 := Lib.hid g4.size; have lq := lst_whole (k := kRec) (xs := [RD]) (n := 1) q4 rfl (fun y hy => by rw [List.mem_singleton.1 hy]; exact wf_dead); clear q4 g4 z4 b4)
        | (refine wpList_append_all (k := kRec) (w := u4) rfl _ _ 27 26 rfl Try.underlying27 _ 32 info_kRec rfl u2.heap.size u4.heap.size 1 1 (some ⟨u3.heap.size, 0, none⟩) (.slice As ns cs) (sortR true rs) [RD] rfl rfl os lq (by rw [HSL.out]; omega) (by omega) (Nat.le_trans HB23.out HB34.out) ?_; intro va u5 oa ga na2; have hrow : ∀ r, (Value.slice As ns cs).ownBlock = some r → u2.heap.size ≤ r := fun r ee => (OwnL.lt os r ee).1; have mi := mi.kept ga (fun ee => by have := hrow _ ee.symm; omega); have q3 := q3.grown ga (fun ee => by have := hrow _ ee.symm; omega); have ga5 := Lib.hid ga.size; have bw5 := bw4.grown ga bw4.size (fun r ee => by have := hrow r ee; omega); clear os ga lq bw4 bw3))
      obtain ⟨Aa, na, ca, rfl, HNA, _, _⟩ := OwnL.form2 oa
      have hna : na = ns + 1 := by have e1 := HNA.out; rw [List.length_append, HSL.out] at e1; exact e1.symm
      subst hna
      have la := OwnL.lst oa (fun x hx => (List.mem_append.1 hx).elim (HSW.out x) (fun h => by rw [List.mem_singleton.1 h]; exact wf_dead))
      have hsz5 : u2.heap.size ≤ u5.heap.size := Nat.le_trans HB23.out (Nat.le_trans HB34.out ga5.out)
      refine (step_sum g u5.heap.size Aa (ns + 1) ca RD (sortR true rs ++ [RD]) u5 q3 la (Nat.le_refl _) (by omega) wf_dead).mono ?_
      rintro e u6 ⟨vx, rfl, ox, b6⟩
      rw [bare_dead] at ox
      rw [bare_dead]
      obtain ⟨HO1, HO2, HO3⟩ := HOUT.out
      have ox : OwnL kRec 26 u6 u5.heap.size vx (outs addF lastG RD (sortR true rs ++ [RD])) := ox
      rw [show ends (fun a v => wrap64 (a + v)) RD (sortR true rs ++ [RD]) = RD from HO3]
      have mi := mi.below b6
      have bw6 := bw5.trans (b6.mono bw5.size)
      obtain ⟨Ax, nx, cx, rfl, HNX, _, _⟩ := OwnL.form2 ox
      have hnx : nx = ns + 1 := by have e1 := HNX.out; rw [HXL.out] at e1; exact e1.symm
      subst hnx
      have HO1 := Lib.hid HO1
      have HO2 := Lib.hid HO2
      generalize outs addF lastG RD (sortR true rs ++ [RD]) = xs at ox HO1 HO2 HXW HXL
      generalize totals rs [] = M at mi HO1 HO2
      clear b6 q3 la oa bw5 HSW HSL HOUT HNA HNX HNS HO3
      go_wp2_with (first
        | (refine wpList_alloc_blk (w := u6) rfl 26 rfl _ zero_rec ?_; intro u7 q7 g7 z7)
        | (refine wpList_store_blk (w := u7) rfl 26 _ _ rfl u6.heap.size 4 rfl 26 _ #[.bool true, .int .i64 0, .int .i64 0, .int .i64 0] rfl q7 info_rec rfl rfl (by kernel_rfl) ?_; intro u8 q8 g8 z8))
      have b8 : Below u6.heap.size u6 u8 := ((Below.refl _ u6).grown g7 (Nat.le_refl _) (by simp)).grown g8 g7.size (fun r e => by cases e; exact Nat.le_refl _)
      have mi := mi.below b8
      have ox := OwnL.below ox b8
      have b8 := bw6.trans (b8.mono bw6.size)
      clear q7 g7 g8 z7 z8 bw6
      refine (awake15_any u8).mono ?_
      rintro e u9 ⟨rfl, b9⟩
      have mi := mi.below b9
      have ox := OwnL.below ox b9
      have q9 := q8.after b9
      have b9 := b8.trans (b9.mono b8.size)
      have cd9 := q9.cell (i := 0) rfl
      have hadd : IntKind.i64.wrap ((ns : Int) + 1) = (ns : Int) + 1 := by rw [IntKind.wrap_i64]; omega
      clear b8 q8
      go_wp2_with (first
        | (refine wpList_run (w := u9) rfl (v := .pointer (some ⟨u6.heap.size, 0, none⟩)) (Held.y_field (S := fun _ => True) (k := 0) (s := 0) rfl rfl Try.underlying26 rfl (by kernel_rfl) rfl _ trivial) ?_))
      clear cd9 q9
      go_loopw [7] (fun t wx => ∃ j : Nat, j ≤ ns + 1 ∧ t = .int .i64 j ∧ Mp Try.prog 2 wx w.heap.size m0 (without (xs.take j) M) ∧ OwnL kRec 26 wx u5.heap.size (.slice Ax (ns + 1) cx) xs ∧ Below w.heap.size w wx) (fun t _ => ns + 1 - (intOf t).toNat)
      case atStart => exact ⟨0, by omega, rfl, by rw [List.take_zero]; exact mi, ox, b9⟩
      case round =>
        clear mi ox b9
        obtain ⟨j, hj, rfl, mj, ox, bx_⟩ := hrel
        by_cases hlj : j < ns + 1
        · obtain ⟨bx, ox_, rfl, hbx, hx⟩ := (OwnL.lst ox HXW.out).at_ hlj
          have hxw : (xs.getD j R0).wf := (OwnL.lst ox HXW.out).wf_at hlj
          have HS1 := Lib.hid (show without (xs.take (j + 1)) M = if (xs.getD j R0).d = true then without (xs.take j) M else cut (xs.getD j R0).k (without (xs.take j) M) by rw [take_snoc (by rw [HXL.out]; exact hlj), without_snoc])
          have HIN := Lib.hid (HO1.out j (by rw [HXL.out]; exact hlj))
          generalize without (xs.take j) M = N at mj HS1 HIN
          have hx : wr.rangeAt bx (ox_ + j * 4) (xs.getD j R0).cells := hx
          generalize xs.getD j R0 = x at hx hxw HS1 HIN
          obtain ⟨xd, xk, xv, xs_⟩ := x
          obtain ⟨wxk, wxv, _⟩ : (Lit.int .i64 xk).wf = true ∧ (Lit.int .i64 xv).wf = true ∧ (Lit.int .i64 xs_).wf = true := hxw
          have cd : wr.cell? ⟨bx, ox_ + j * 4 + 0, none⟩ = some (.bool xd) := hx 0 _ rfl
          have cd2 : wr.cell? ⟨bx, ox_ + j * 4, none⟩ = some (.bool xd) := cd
          have ck : wr.cell? ⟨bx, ox_ + j * 4 + 1, none⟩ = some (.int .i64 xk) := hx 1 _ rfl
          have cv : wr.cell? ⟨bx, ox_ + j * 4 + 2, none⟩ = some (.int .i64 xv) := hx 2 _ rfl
          have hlj' : (j : Int) < (ns : Int) + 1 := by omega
          have hj0 : (0 : Int) ≤ (j : Int) := by omega
          clear hx cd
          cases xd
          · have HS2 := Lib.hid (show without (xs.take (j + 1)) M = cut xk N from HS1.out.trans (if_neg (by simp)))
            obtain ⟨hin, hlk⟩ := HIN.out rfl
            have hin : xk ∈ N.map (·.1) := hin
            have hlk : Mq.look N xk = xv := hlk
            go_wp2_with (first
              | (refine wpList_run (w := wr) rfl (v := .pointer (some ⟨bx, ox_ + j * 4, none⟩)) (Held.y_addr (S := fun _ => True) rfl rfl rfl (run_addr_of (P := Try.prog) 27 26 bx ox_ (ns + 1) cx j 4 .i64 Try.underlying27 info_rec hlj) _ trivial) ?_)
              | (refine wpList_run (w := wr) rfl (v := .pointer (some ⟨bx, ox_ + j * 4, none⟩)) (Held.y_field (S := fun _ => True) (k := 0) (s := 0) rfl rfl Try.underlying26 rfl (by kernel_rfl) rfl _ trivial) ?_)
              | (refine wpList_run (w := wr) rfl (v := .pointer (some ⟨bx, ox_ + j * 4 + 1, none⟩)) (Held.y_field (S := fun _ => True) (k := 1) (s := 0) rfl rfl Try.underlying26 rfl (by kernel_rfl) rfl _ trivial) ?_)
              | (refine wpList_run (w := wr) rfl (v := .pointer (some ⟨bx, ox_ + j * 4 + 2, none⟩)) (Held.y_field (S := fun _ => True) (k := 2) (s := 0) rfl rfl Try.underlying26 rfl (by kernel_rfl) rfl _ trivial) ?_)
              | (refine wpList_run (w := wr) rfl (v := .tuple #[.int .i64 xv, .bool true]) (y_look_hit (S := fun W => W = wr) (K := 2) (T := 40) (b := w.heap.size) (n := m0) (M := N) rfl rfl rfl wxk Try.underlying2 Try.underlying40 zero_i (fun W hW => by rw [hW]; exact mj) hin hlk _ rfl) ?_)
              | (refine wpList_run (w := wr) rfl (v := .bool false) (Held.y_neI (S := fun _ => True) (a := xv) (b := xv) rfl rfl rfl (by simp) _ trivial) ?_)
              | (refine wpList_delete_mp (w := wr) rfl _ _ 40 2 xk rfl w.heap.size m0 N rfl rfl wxk Try.underlying2 Try.underlying40 mj ?_; intro wy my gy))
            have oy := OwnL.kept ox gy (.inr fun ee => by have := (OwnL.lt ox _ ee).1; omega)
            have by_ := bx_.grown gy bx_.size (fun r ee => by cases ee; exact Nat.le_refl _)
            go_roundw
            case rel => exact ⟨j + 1, by omega, by go_num, by rw [HS2.out]; exact my, oy, by_⟩
            case measure => simp [intOf]; omega
          · have HS2 := Lib.hid (show without (xs.take (j + 1)) M = N from HS1.out.trans (if_pos rfl))
            go_wp2_with (first
              | (refine wpList_run (w := wr) rfl (v := .pointer (some ⟨bx, ox_ + j * 4, none⟩)) (Held.y_addr (S := fun _ => True) rfl rfl rfl (run_addr_of (P := Try.prog) 27 26 bx ox_ (ns + 1) cx j 4 .i64 Try.underlying27 info_rec hlj) _ trivial) ?_)
              | (refine wpList_run (w := wr) rfl (v := .pointer (some ⟨bx, ox_ + j * 4, none⟩)) (Held.y_field (S := fun _ => True) (k := 0) (s := 0) rfl rfl Try.underlying26 rfl (by kernel_rfl) rfl _ trivial) ?_))
            go_roundw
            case rel => exact ⟨j + 1, by omega, by go_num, by rw [HS2.out]; exact mj, ox, bx_⟩
            case measure => simp [intOf]; omega
        · have hjn : j = ns + 1 := by omega
          subst hjn
          rw [List.take_of_length_le (by rw [HXL.out]; exact Nat.le_refl _), HO2.out] at mj
          go_wp2_with (refine wpList_run (w := wr) rfl (v := .int .i64 0) (y_lenm (S := fun W => W = wr) (K := 2) (T := 40) (b := w.heap.size) (n := m0) (M := []) rfl rfl Try.underlying40 (fun W hW => by rw [hW]; exact mj) _ rfl) ?_)
          go_ret
          exact ⟨rfl, bx_⟩
theorem walk (A0 : Option Addr) (m0 c0 : Nat) (rs0 : List Rs.R) (w : World) (hr0 : Rs.Recs w w.heap.size A0 m0 rs0) (hc0 : m0 ≤ c0 ∧ c0 ≤ maxLen) :
    Calls Try.prog 5 #[.slice A0 m0 c0] w fun e w' => e = .returned (.bool true) ∧ Below w.heap.size w w' := by
  exact start A0 m0 c0 rs0 w hr0
set_option maxRecDepth 100000 in
theorem lifted (os : Os) (started : os.Started) (H : Type) (enc : TypeId × Value → H) :
    ReturnsInHanded {} Try.checked os 5 .any (Rows.chainSumsSpec.pre6 enc Try.prog Try.f5 Rows.chainSumsRow.domain false) (Rows.chainSumsSpec.post enc Try.prog Try.f5 false true false false) := by
  refine returnsInHanded_of_change (C := Try.checked) own started (by kernel_rfl) Try.func5
    (ChangeSpec.witness6 (enc := enc) (C := Try.checked) false ⟨#[], #[.slice none 0 0], []⟩ 8 (by kernel_rfl) (by kernel_rfl) (by kernel_rfl) (by kernel_rfl)) ?_
  intro W base args ds gs before hval0 hW hcnd _
  have hval : ∀ (j : Nat) t v, Try.f5.params[j]? = some t → args[j]? = some v → Value.okWide Try.prog W .any base t v := hval0
  have hW' := hW
  obtain ⟨p, q, hA0, hV, rfl, hfz, hnd⟩ := hW
  have hA : DataW.TrodAll enc Try.prog W 0 (fun _ => true) true Try.f5.params.toList args.toList ds p := hA0
  rw [Try.params5] at hA hval
  obtain ⟨v0, vs0, d0, ds0, p0, q0, hargs, rfl, rfl, h0, r0⟩ := trodAll_cons hA
  obtain ⟨rfl, rfl, rfl⟩ := trodAll_nil r0
  obtain rfl : args = #[v0] := by cases args; simp_all
  obtain ⟨rfl, rfl⟩ := trodVars_none hV
  obtain ⟨A0, m0, c0, rfl⟩ := okWide_slice Try.underlying27 (hval 0 27 v0 rfl rfl)
  have kk0 := h0
  have lt0 : ∀ x ∈ p0, x.block < W.heap.size := by obtain ⟨m, hm⟩ := kk0; exact DataW.trod_lt m _ _ _ hm
  obtain ⟨rs0, hr0, hc0⟩ := Rs.open_recs h0
  clear hA0 hval0
  refine (walk A0 m0 c0 rs0 W hr0 hc0).mono fun e W' ⟨he, bel⟩ => ?_
  subst he
  exact ⟨_, rfl, _, _, _, [], _, [], hW', trodAll_mk1 (shut_bool Try.underlying4 _), (trodAll_cons_mk (Below.trod laidOut (by kernel_rfl) (of_decide_eq_true (by kernel_rfl)) kk0 bel lt0) trodAll_mk0), rfl, bel.frame _, fun h => by cases h⟩
theorem over : Rows.chainSumsRow.holds Try.pinned (OpenSpec.ofChange Rows.chainSumsSpec) :=
  OpenClaim.holds_of_wide 5 Try.f5 rfl rfl rfl rfl rfl rfl rfl ⟨rfl, rfl, rfl, rfl, rfl⟩ rfl rfl rfl rfl rfl (by kernel_rfl) Try.func5 (by kernel_rfl)
    (of_decide_eq_true (by kernel_rfl)) (by unfold Func.isWrapper; first | (rw [if_pos (by decide +kernel)]; kernel_rfl) | (rw [if_neg (by decide +kernel)]; exact ⟨rfl, rfl⟩))
    (fun os started H enc _ => lifted os started H enc)
theorem proved : Rows.ChainSumsSaid :=
  over
#print axioms proved
end Go.Proofs.Ytkiempdpfmolfaa.chainSums
