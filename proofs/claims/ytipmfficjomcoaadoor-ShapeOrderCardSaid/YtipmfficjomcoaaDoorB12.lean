/-
  Package shape's Ready, by its contract.
  What the law ShapeOrder asks of the tasks of few blocks, as plain facts: told by trying all of them.
  What the frame of a proof says of a list of pairs, of public numbers that came in.
-/
import Derived.Test.YtipmfficjomcoaaDoorB11
import Derived.Test.YtipmfficjomcoaaDoorB8
import Derived.Test.YtipmfficjomcoaaDoorB4
set_option linter.unusedVariables false
namespace Go.Proofs.YtipmfficjomcoaaDoor.Sh
open Go.RowKit Go.Shelf Mem Held Go.Proofs.YtipmfficjomcoaaDoor.Range Sl
attribute [local go_sem] Oper.semAt_some
attribute [local irreducible] wpList wpListIn Calls
theorem all_false {l : List Sp} {f : Sp → Bool} {i : Nat} (hi : i < l.length) (h : f (l.getD i S0) = false) : l.all f = false := by
  rw [List.getD_eq_getElem?_getD, List.getElem?_eq_getElem hi] at h
  rw [List.all_eq_false]
  exact ⟨_, List.getElem_mem hi, by rw [show f l[i] = false from h]; simp⟩
theorem all_true {l : List Sp} {f : Sp → Bool} (h : ∀ i, i < l.length → f (l.getD i S0) = true) : l.all f = true := by
  rw [List.all_eq_true]
  intro s hs
  obtain ⟨i, hi, rfl⟩ := List.getElem_of_mem hs
  have := h i hi
  rwa [List.getD_eq_getElem?_getD, List.getElem?_eq_getElem hi] at this
set_option maxRecDepth 100000 in
set_option maxHeartbeats 8000000 in
theorem ready_of (B : Nat) (Ad : Option Addr) (nd cd : Nat) (bs : List Bool) (r k b wk n : Int) (hk0 : -9223372036854775808 ≤ k) (hk1 : k ≤ 9223372036854775807) (hn0 : -9223372036854775808 ≤ n) (hn1 : n ≤ 9223372036854775807) (w : World) (hT : Bi.TzT w) (hd : Lst Vm.kB w B Ad nd bs) (hB : B ≤ w.heap.size) :
    Calls Tryd.prog 24 #[.agg #[.int .i64 r, .int .i64 k, .int .i64 b, .int .i64 wk], .slice Ad nd cd, .int .i64 n] w fun e w' => e = .returned (.bool (readyT k (tasksT (inN r k b wk) (mpN r k b wk) (mN r k b wk) (tN r k b wk)) (tN r k b wk : Int) bs (taskAt (tasksT (inN r k b wk) (mpN r k b wk) (mN r k b wk) (tN r k b wk)) n))) ∧ Below w.heap.size w w' := by
  have HMK := Lib.hid (fun (ph rd ad : Int) (W : World) (hT : Bi.TzT W) => makes_any r k b wk ph rd ad hk0 hk1 W hT)
  have hdl := hd.1
  have h := job_of (r := r) (b := b) (wk := wk) hk0 hk1
  have HK := Lib.hid (fun (i : Nat) (t : Tk) (ht : (tasksT (inN r k b wk) (mpN r k b wk) (mN r k b wk) (tN r k b wk))[i]? = some t) => task_right ht)
  have HJ := Lib.hid (fun (W : World) => jobOf_any r k b wk W)
  have HTA := Lib.hid (fun (W : World) (hT : Bi.TzT W) => task_any r k b wk n hk0 hk1 hn0 hn1 W hT)
  generalize inN r k b wk = I at *
  generalize mpN r k b wk = mp at *
  generalize mN r k b wk = M at *
  generalize tN r k b wk = T at *
  cases htk : taskAt (tasksT I mp M T) n with
  | none =>
    rw [htk] at HTA
    have HTA : Hid (∀ (W : World), Bi.TzT W → Calls Tryd.prog 16 #[.agg #[.int .i64 r, .int .i64 k, .int .i64 b, .int .i64 wk], .int .i64 n] W fun e w' => e = .returned (.tuple #[.agg #[.int .i64 0, .int .i64 0, .int .i64 0, .int .i64 0, .bool false], .bool false]) ∧ Below W.heap.size W w') := HTA
    clear htk HJ HK h
    go_enter Tryd.func24, Tryd.ntmps24
    go_wp2_with (first
      | (refine wpList_box_blk (w := w) rfl 23 _ rfl _ rfl ?_; intro u1 qu1 gu1 zu1; have b1 : Below w.heap.size w u1 := (Below.refl _ w).grown gu1 (Nat.le_refl _) (by simp))
      | (refine wpList_load_blk (w := u1) rfl 23 _ rfl (w.heap.size) 4 rfl 23 _ qu1 _ Tryd.underlying23 rfl (by kernel_rfl) rfl ?_))
    refine (HTA.out u1 (hT.below b1 hT.lt)).mono ?_
    rintro e u2 ⟨rfl, b2⟩
    have bo := b1.trans (b2.mono b1.size)
    go_wp2_with (first
      | (refine wpList_alloc_blk (w := u2) rfl 34 rfl #[.int .i64 0, .int .i64 0, .int .i64 0, .int .i64 0, .bool false] (by kernel_rfl) ?_; intro u3 qu3 gu3 zu3)
      | (refine wpList_store_blk (w := u3) rfl 34 _ _ rfl (u2.heap.size) 5 rfl 34 _ #[.int .i64 0, .int .i64 0, .int .i64 0, .int .i64 0, .bool false] rfl qu3 (by kernel_rfl) rfl rfl (by kernel_rfl) ?_; intro u4 qu4 gu4 zu4; have bo4 : Below w.heap.size w u4 := (bo.grown gu3 bo.size (by simp)).grown gu4 (Nat.le_trans bo.size gu3.size) (fun r e => by injection e with e; have := bo.size; omega)))
    go_ret
    exact ⟨rfl, bo4⟩
  | some t =>
    have hat := taskAt_at htk
    have hb := tasks_bi h hat
    rw [htk] at HTA
    have HRL := Lib.hid (reads_length (T : Int) t)
    have HRS := Lib.hid (show readyT k (tasksT I mp M T) (T : Int) bs (some t) = (readsT (T : Int) t).all (thereT k (tasksT I mp M T) bs) from rfl)
    have HRW := Lib.hid (reads_wf hb (show (0 : Int) ≤ (T : Int) by omega) (by have := h.t15; omega))
    have HML := Lib.hid (fun s => makesT_le k (tasksT I mp M T) s)
    have HLN := Lib.hid (show (tasksT I mp M T).length ≤ 1000 by rw [tasks_length h]; exact cn_le h (by omega))
    obtain ⟨kd, rd, ta, tb, up⟩ := t
    have HTA : Hid (∀ (W : World), Bi.TzT W → Calls Tryd.prog 16 #[.agg #[.int .i64 r, .int .i64 k, .int .i64 b, .int .i64 wk], .int .i64 n] W fun e w' => e = .returned (.tuple #[.agg #[.int .i64 kd, .int .i64 rd, .int .i64 ta, .int .i64 tb, .bool up], .bool true]) ∧ Below W.heap.size W w') := HTA
    rw [HRS.out]
    clear htk HK hat HRS
    go_enter Tryd.func24, Tryd.ntmps24
    go_wp2_with (first
      | (refine wpList_box_blk (w := w) rfl 23 _ rfl _ rfl ?_; intro u1 qu1 gu1 zu1; have b1 : Below w.heap.size w u1 := (Below.refl _ w).grown gu1 (Nat.le_refl _) (by simp))
      | (refine wpList_load_blk (w := u1) rfl 23 _ rfl (w.heap.size) 4 rfl 23 _ qu1 _ Tryd.underlying23 rfl (by kernel_rfl) rfl ?_))
    refine (HTA.out u1 (hT.below b1 hT.lt)).mono ?_
    rintro e u2 ⟨rfl, b2⟩
    have bo := b1.trans (b2.mono b1.size)
    have qp2 := qu1.after b2
    go_wp2_with (first
      | (refine wpList_alloc_blk (w := u2) rfl 34 rfl #[.int .i64 0, .int .i64 0, .int .i64 0, .int .i64 0, .bool false] (by kernel_rfl) ?_; intro u3 qu3 gu3 zu3)
      | (refine wpList_store_blk (w := u3) rfl 34 _ _ rfl (u2.heap.size) 5 rfl 34 _ #[.int .i64 kd, .int .i64 rd, .int .i64 ta, .int .i64 tb, .bool up] rfl qu3 (by kernel_rfl) rfl rfl (by kernel_rfl) ?_; intro u4 qu4 gu4 zu4; have bo4 : Below w.heap.size w u4 := (bo.grown gu3 bo.size (by simp)).grown gu4 (Nat.le_trans bo.size gu3.size) (fun r e => by injection e with e; have := bo.size; omega); have qp4 := (qp2.grown gu3 (by simp)).grown gu4 (by intro e; injection e with e; have := qp2.lt; omega); have qt4 := qu4))
    generalize u2.heap.size = bt at *
    clear b1 b2 bo gu1 gu3 gu4 zu1 zu3 zu4 qu1 qu3 qp2 HTA
    refine wp_region_held (S := fun W => Below u4.heap.size u4 W) (by kernel_rfl) ?_
    change wpAnyH _ _ _ _ _ _ _ _ u4.drew
    have c0_0 := (Below.refl u4.heap.size u4).drew
    refine Held.tk (v := .agg #[.int .i64 r, .int .i64 k, .int .i64 b, .int .i64 wk]) 0 (some 20) rfl (Held.y_load_blk (n := 4) rfl rfl Tryd.underlying23 rfl (by kernel_rfl) rfl (fun W hW => qp4.after hW)) c0_0 ?_
    simp only [Act.put, Z1, Z2, Z3]
    refine Held.tk (v := .agg #[.int .i64 kd, .int .i64 rd, .int .i64 ta, .int .i64 tb, .bool up]) 2 (some 22) rfl (Held.y_load_blk (n := 5) rfl rfl Tryd.underlying34 rfl (by kernel_rfl) rfl (fun W hW => qt4.after hW)) c0_0 ?_
    simp only [Act.put, Z1, Z2, Z3]
    refine Held.tk (v := (.int .i64 0)) 5 (some 25) rfl (Held.y_move rfl rfl) c0_0 ?_
    simp only [Act.put, Z1, Z2, Z3]
    refine Held.one 1 (by kernel_rfl) ?_
    refine Held.op_call 1 (some 21) 33 #[.agg #[.int .i64 r, .int .i64 k, .int .i64 b, .int .i64 wk]] rfl rfl rfl rfl (enters_of Tryd.func33 (by kernel_rfl) rfl) (by simp [Act.eval])
      (HJ.out _) ?_
    rintro e w1 ⟨rfl, b1⟩
    have c0_1 := c0_0.trans (b1.mono c0_0.size)
    refine ⟨_, rfl, c0_1, ?_⟩
    simp only [Act.put, Z1, Z2, Z3]
    refine Held.one 3 (by kernel_rfl) ?_
    refine Held.op_call 3 (some 23) 42 #[.agg #[.int .i64 k, .int .i64 (I : Int), .int .i64 (M : Int)], .agg #[.int .i64 kd, .int .i64 rd, .int .i64 ta, .int .i64 tb, .bool up]] rfl rfl rfl rfl (enters_of Tryd.func42 (by kernel_rfl) rfl) (by simp [Act.eval])
      (reads_any k I mp M T kd rd ta tb up h hb _ (hT.below (bo4.trans (c0_1.mono bo4.size)) hT.lt)) ?_
    rintro e w2 ⟨A1, n1, c1, rfl, hn1, o1, b2⟩
    have c0_2 := c0_1.trans (b2.mono c0_1.size)
    refine ⟨_, rfl, c0_2, ?_⟩
    simp only [Act.put, Z1, Z2, Z3]
    refine Held.tk (v := .int .i64 (n1 : Int)) 4 (some 24) rfl (Held.y_len rfl rfl Tryd.underlying47) c0_2 ?_
    simp only [Act.put, Z1, Z2, Z3]
    refine wpAnyH_done (by kernel_rfl) ?_ _
    have bz := bo4.trans (c0_2.mono bo4.size)
    have hbz := bo4.size
    have hp2 := qp4.after c0_2
    have l2 : w2.heap.size ≤ w2.heap.size := Nat.le_refl _
    have HN1 := hn1
    have hwf2 := fun s hs => HRW.out s hs
    have ol : Lst kS w2 w2.heap.size A1 n1 (readsT (T : Int) ⟨kd, rd, ta, tb, up⟩) := OwnL.lst o1 (fun s hs => HRW.out s hs)
    have hwz := bz.size
    obtain ⟨rs, hrs⟩ : ∃ rs, readsT (T : Int) ⟨kd, rd, ta, tb, up⟩ = rs := ⟨_, rfl⟩
    rw [hrs] at ol HN1 HRL
    have HRS := Lib.hid hrs
    have hn2 : n1 ≤ 2 := by have := HRL.out; have := HN1.out; omega
    have hlp : w.heap.size < w2.heap.size := hp2.lt
    clear qt4 qp4 c0_0 c0_1 c0_2 o1 bo4 b1 b2 hn1 hwf2 l2 h hb HJ HRW hrs
    go_wp2_with fail
    go_loopw [10, 11, 25] (fun u v i wr => ∃ m : Nat, m ≤ n1 ∧ i = .int .i64 m ∧ Hid (∀ j, j < m → thereT k (tasksT I mp M T) bs (rs.getD j S0) = true) ∧ Lst kS wr w2.heap.size A1 n1 rs ∧ Blk wr w.heap.size 23 #[.int .i64 r, .int .i64 k, .int .i64 b, .int .i64 wk] ∧ Below w.heap.size w wr ∧ w2.heap.size ≤ wr.heap.size) (fun _ _ i _ => n1 - (intOf i).toNat)
    case atStart => exact ⟨0, by omega, rfl, Lib.hid (fun j hj => by omega), ol, hp2, bz, Nat.le_refl _⟩
    case round =>
      clear ol hp2 bz
      obtain ⟨m, hm, rfl, hth, hl, qp, bw, hzz⟩ := hrel
      have hwr := bw.size
      by_cases hlt : m < n1
      · have hlt' : (m : Int) < (n1 : Int) := by omega
        have hm0 : (0 : Int) ≤ (m : Int) := by omega
        have hmr : m < rs.length := by have := HN1.out; omega
        have hadd : IntKind.i64.wrap ((m : Int) + 1) = (m : Int) + 1 := by rw [IntKind.wrap_i64]; omega
        obtain ⟨bl, off, rfl, hbl, hc⟩ := hl.at_ hlt
        have HTH := Lib.hid (show ∀ bb, thereT k (tasksT I mp M T) bs (rs.getD m S0) = bb → thereT k (tasksT I mp M T) bs (rs.getD m S0) = bb from fun _ h => h)
        have HAF := Lib.hid (fun (h : thereT k (tasksT I mp M T) bs (rs.getD m S0) = false) => all_false hmr h)
        have HST := Lib.hid (fun (h : thereT k (tasksT I mp M T) bs (rs.getD m S0) = true) => show ∀ j, j < m + 1 → thereT k (tasksT I mp M T) bs (rs.getD j S0) = true from fun j hj => by
          rcases Nat.lt_or_ge j m with c | c
          · exact hth.out j c
          · obtain rfl : j = m := by omega
            exact h)
        have hml := HML.out (rs.getD m S0)
        have HTD := Lib.hid (show thereT k (tasksT I mp M T) bs (rs.getD m S0) = (decide (makesT k (tasksT I mp M T) (rs.getD m S0) < 0) || (decide (makesT k (tasksT I mp M T) (rs.getD m S0) < (bs.length : Int)) && bs.getD (makesT k (tasksT I mp M T) (rs.getD m S0)).toNat false)) from rfl)
        change wr.rangeAt bl (off + m * 3) (kS.cells (rs.getD m S0)) at hc
        generalize rs.getD m S0 = s at hc hml HAF HST HTD
        obtain ⟨ph, rd', ad⟩ := s
        have hc0 : wr.cell? ⟨bl, off + m * 3, none⟩ = some (.int .i64 ph) := hc 0 _ rfl
        have hc1 : wr.cell? ⟨bl, off + m * 3 + 1, none⟩ = some (.int .i64 rd') := hc 1 _ rfl
        have hc2 : wr.cell? ⟨bl, off + m * 3 + 2, none⟩ = some (.int .i64 ad) := hc 2 _ rfl
        have hln := HLN.out
        clear HTH
        obtain ⟨mk, hmk⟩ : ∃ mk, makesT k (tasksT I mp M T) ⟨ph, rd', ad⟩ = mk := ⟨_, rfl⟩
        rw [hmk] at hml HTD
        have HMQ := Lib.hid hmk
        clear hmk
        go_wp2_with (first
          | (refine wpList_load_mid rfl 42 _ rfl bl (off + m * 3) rfl (kS.cells ⟨ph, rd', ad⟩) _ hc Tryd.underlying42 rfl (by kernel_rfl) ?_)
          | (refine wpList_alloc_blk (w := wr) rfl 42 rfl #[.int .i64 0, .int .i64 0, .int .i64 0] (by kernel_rfl) ?_; intro v1 qv1 gv1 zv1; have qp1 := qp.grown gv1 (by simp))
          | (refine wpList_store_blk (w := v1) rfl 42 _ _ rfl (wr.heap.size) 3 rfl 42 _ #[.int .i64 ph, .int .i64 rd', .int .i64 ad] rfl qv1 (by kernel_rfl) rfl rfl (by kernel_rfl) ?_; intro v2 qv2 gv2 zv2; have bv : Below wr.heap.size wr v2 := ((Below.refl _ wr).grown gv1 (Nat.le_refl _) (by simp)).grown gv2 gv1.size (fun r e => by cases e; exact Nat.le_refl _); have qp2 := qp.after bv)
          | (refine wpList_load_blk (w := v2) rfl 23 _ rfl (w.heap.size) 4 rfl 23 _ qp2 _ Tryd.underlying23 rfl (by kernel_rfl) rfl ?_)
          | (refine wpList_load_blk (w := v2) rfl 42 _ rfl (wr.heap.size) 3 rfl 42 _ qv2 _ Tryd.underlying42 rfl (by kernel_rfl) rfl ?_))
        have bw2 := bw.trans (bv.mono hwr)
        have hl2 := hl.below (bv.mono hzz)
        have hv2 := bv.size
        refine (HMK.out ph rd' ad v2 (hT.below bw2 hT.lt)).mono ?_
        rintro e v3 ⟨rfl, b3⟩
        rw [HMQ.out]
        have bw3 := bw2.trans (b3.mono bw2.size)
        have hl3 := hl2.below (b3.mono (by omega))
        have qp3 := qp2.after b3
        have hd3 := hd.below (bw3.mono hB)
        have hz3 := b3.size
        clear gv1 gv2 zv1 zv2 qv1 qv2 bv qp1 qp2 qp bw bw2 b3 hl hl2 hc hc0 hc1 hc2
        by_cases hA : (nd : Int) ≤ mk
        · have hdA : decide ((nd : Int) ≤ mk) = true := decide_eq_true hA
          have HF := Lib.hid (HAF.out (by rw [HTD.out, decide_eq_false (show ¬ mk < 0 by omega), decide_eq_false (show ¬ mk < (bs.length : Int) by omega)]; rfl))
          clear hA
          go_wp2_with (first
            | (refine Held.wpList_run (w := v3) rfl (v := .bool true) (Sp.y_geq (S := fun _ => True) rfl rfl rfl hdA _ trivial) ?_))
          go_ret
          exact ⟨Mem.ret_bool (by rw [HRS.out]; exact HF.out.symm), bw3⟩
        · have hdA : decide ((nd : Int) ≤ mk) = false := decide_eq_false hA
          by_cases hB0 : (0 : Int) ≤ mk
          · obtain ⟨mn, rfl⟩ : ∃ mn : Nat, mk = (mn : Int) := ⟨mk.toNat, by omega⟩
            have hdB : decide ((0 : Int) ≤ (mn : Int)) = true := decide_eq_true hB0
            have hmn : mn < nd := by omega
            have hmn' : (mn : Int) < (nd : Int) := by omega
            obtain ⟨bd, offd, rfl, hbd, hcd⟩ := hd3.at_ hmn
            have hcd : v3.cell? ⟨bd, offd + mn, none⟩ = some (.bool (bs.getD mn false)) := by
              have := hcd 0 _ rfl
              simpa [Vm.kB] using this
            have HTB := Lib.hid (show thereT k (tasksT I mp M T) bs ⟨ph, rd', ad⟩ = bs.getD mn false by
              rw [HTD.out, decide_eq_false (show ¬ (mn : Int) < 0 by omega), decide_eq_true (show (mn : Int) < (bs.length : Int) by omega), Int.toNat_natCast]
              rfl)
            generalize bs.getD mn false = bb at hcd HTB
            clear hA hml
            cases bb with
            | false =>
              have HF := Lib.hid (HAF.out HTB.out)
              go_wp2_with (first
                | (refine Held.wpList_run (w := v3) rfl (v := .bool false) (Sp.y_geq (S := fun _ => True) rfl rfl rfl hdA _ trivial) ?_)
                | (refine Held.wpList_run (w := v3) rfl (v := .bool true) (Sp.y_geq (S := fun _ => True) rfl rfl rfl hdB _ trivial) ?_))
              go_ret
              exact ⟨Mem.ret_bool (by rw [HRS.out]; exact HF.out.symm), bw3⟩
            | true =>
              have HF := Lib.hid (HST.out HTB.out)
              go_wp2_with (first
                | (refine Held.wpList_run (w := v3) rfl (v := .bool false) (Sp.y_geq (S := fun _ => True) rfl rfl rfl hdA _ trivial) ?_)
                | (refine Held.wpList_run (w := v3) rfl (v := .bool true) (Sp.y_geq (S := fun _ => True) rfl rfl rfl hdB _ trivial) ?_))
              go_roundw
              case rel => exact ⟨m + 1, by omega, by go_num, HF, hl3, qp3, bw3, by omega⟩
              case measure => simp [intOf]; omega
          · have hdB : decide ((0 : Int) ≤ mk) = false := decide_eq_false hB0
            have HF := Lib.hid (HST.out (by rw [HTD.out, decide_eq_true (show mk < 0 by omega)]; rfl))
            clear hA hB0 hml
            go_wp2_with (first
              | (refine Held.wpList_run (w := v3) rfl (v := .bool false) (Sp.y_geq (S := fun _ => True) rfl rfl rfl hdA _ trivial) ?_)
              | (refine Held.wpList_run (w := v3) rfl (v := .bool false) (Sp.y_geq (S := fun _ => True) rfl rfl rfl hdB _ trivial) ?_))
            go_roundw
            case rel => exact ⟨m + 1, by omega, by go_num, HF, hl3, qp3, bw3, by omega⟩
            case measure => simp [intOf]; omega
      · obtain rfl : m = n1 := by omega
        have HR := Lib.hid (show rs.all (thereT k (tasksT I mp M T) bs) = true from all_true (fun i hi => hth.out i (by have := HN1.out; omega)))
        go_wp2_with fail
        go_ret
        exact ⟨Mem.ret_bool (by rw [HRS.out]; exact HR.out.symm), bw⟩
end Go.Proofs.YtipmfficjomcoaaDoor.Sh
namespace Go.Proofs.YtipmfficjomcoaaDoor.Sh
open Go.RowKit Go.Shelf Mem Held Sl
def ordT (K T : Int) (l : List Tk) (i : Nat) (t : Tk) : Bool :=
  decide (writesT K t).Nodup && (writesT K t).all (fun s => decide (makesT K l s = (i : Int))) && (readsT T t).all (fun s => decide (makesT K l s < (i : Int)) && (decide (0 ≤ makesT K l s) || decide (s.ph = 0)))
def ordL (K : Int) (T M : Nat) (l : List Tk) : Bool :=
  decide (l.length ≤ 500) && (List.range l.length).all (fun i => ordT K T l i (l.getD i T0)) && (lastT M (T : Int)).all (fun s => decide (0 ≤ makesT K l s))
def ordN (K q : Nat) : Bool :=
  let M := (Bi.padV ((K * q : Nat) + 1)).toNat
  let T := Bi.tri (Bi.stg (M : Int))
  ordL K T M (tasksT q (K * q) M T)
theorem ord_all : ∀ K : Fin 5, ∀ q : Fin 8, 1 ≤ K.val → 1 ≤ q.val → K.val * q.val ≤ 7 → ordN K.val q.val = true := by decide +kernel
structure OrdP (K : Int) (T M : Nat) (l : List Tk) : Prop where
  len : l.length ≤ 500
  nd : ∀ (i : Nat) t, l[i]? = some t → (writesT K t).Nodup
  made : ∀ (i : Nat) t s, l[i]? = some t → s ∈ writesT K t → makesT K l s = (i : Int)
  rd : ∀ (i : Nat) t s, l[i]? = some t → s ∈ readsT T t → makesT K l s < (i : Int) ∧ (makesT K l s < 0 → s.ph = 0)
  last : ∀ s ∈ lastT M (T : Int), s ∈ l.flatMap (writesT K)
theorem ordP_of {K : Int} {T M : Nat} {l : List Tk} (h : ordL K T M l = true) : OrdP K T M l := by
  simp only [ordL, Bool.and_eq_true, decide_eq_true_eq, List.all_eq_true, List.mem_range] at h
  obtain ⟨⟨h1, h2⟩, h3⟩ := h
  have hi : ∀ (i : Nat) t, l[i]? = some t → ordT K T l i t = true := fun i t ht => by
    have := h2 i (List.getElem?_eq_some_iff.1 ht).1
    rwa [List.getD_eq_getElem?_getD, ht] at this
  refine ⟨h1, fun i t ht => ?_, fun i t s ht hs => ?_, fun i t s ht hs => ?_, fun s hs => ?_⟩
  · have := hi i t ht
    simp only [ordT, Bool.and_eq_true, decide_eq_true_eq] at this
    exact this.1.1
  · have := hi i t ht
    simp only [ordT, Bool.and_eq_true, decide_eq_true_eq, List.all_eq_true] at this
    exact this.1.2 s hs
  · have := hi i t ht
    simp only [ordT, Bool.and_eq_true, Bool.or_eq_true, decide_eq_true_eq, List.all_eq_true] at this
    have := this.2 s hs
    refine ⟨this.1, fun h0 => this.2.resolve_left (by omega)⟩
  · have := h3 s hs
    refine Classical.byContradiction fun hn => ?_
    have e : makesT K l s = -1 := mkF_none K s l 0 (fun j u hu hs' => hn (List.mem_flatMap.2 ⟨u, List.mem_of_getElem? hu, hs'⟩))
    omega
theorem ord_few {r k b wk x : Int} (h : Few r k b wk x) (hk0 : -9223372036854775808 ≤ k) (hk1 : k ≤ 9223372036854775807) : OrdP k (tN x k b wk) (mN x k b wk) (tasksT (inN x k b wk) (mpN x k b wk) (mN x k b wk) (tN x k b wk)) := by
  rcases h with ⟨h1, rfl⟩ | ⟨-, h1, h2⟩
  · have e : ¬ Sp.rightB x k b wk = true := by rw [h1]; simp
    have hl := tasks_length (job_of (r := x) (b := b) (wk := wk) hk0 hk1)
    have eI : inN x k b wk = 0 := by rw [inN, if_neg e]
    have ep : mpN x k b wk = 0 := by rw [mpN, if_neg e]
    have eM : mN x k b wk = 0 := by rw [mN, if_neg e]
    rw [eI, ep, eM] at hl ⊢
    have h0 : (tasksT 0 0 0 (tN x k b wk)).length = 0 := by rw [hl]; simp [cnK, szK]
    rw [List.eq_nil_of_length_eq_zero h0]
    exact ⟨by simp, by simp, by simp, by simp, by simp [lastT]⟩
  · obtain ⟨_, ⟨hk1, hk4⟩, _, _, ⟨hi1, hi⟩, hq1, hq⟩ := right_says h1
    have eI : inN x k b wk = ((x + b - 1) / b).toNat := by rw [inN, if_pos h1]
    have ep : mpN x k b wk = (k * ((x + b - 1) / b)).toNat := by rw [mpN, if_pos h1]
    have eM : mN x k b wk = (Bi.padV (k * ((x + b - 1) / b) + 1)).toNat := by rw [mN, if_pos h1]
    rw [tN, eI, ep, eM]
    generalize (x + b - 1) / b = q at *
    obtain ⟨K, rfl⟩ : ∃ K : Nat, k = (K : Int) := ⟨k.toNat, by omega⟩
    obtain ⟨I, rfl⟩ : ∃ I : Nat, q = (I : Int) := ⟨q.toNat, by omega⟩
    rw [← Int.natCast_mul] at h2 hq1 hq ⊢
    have hI : I ≤ 7 := Nat.le_trans (Nat.le_mul_of_pos_left I (show 0 < K by omega)) (show K * I ≤ 7 by omega)
    have := ord_all ⟨K, by omega⟩ ⟨I, by omega⟩ (show 1 ≤ K by omega) (show 1 ≤ I by omega) (show K * I ≤ 7 by omega)
    have := ordP_of this
    simpa only [Int.toNat_natCast] using this
def dnB (N n : Nat) : List Bool := (List.range N).map fun j => decide (j < n)
theorem dnB_length (N n : Nat) : (dnB N n).length = N := by simp [dnB]
theorem dnB_at {N n j : Nat} (h : j < N) (hn : j < n) : (dnB N n).getD j false = true := by simp [dnB, h, hn]
theorem dnB_zero (N : Nat) : List.replicate N false = dnB N 0 := by
  apply List.ext_getElem?
  intro j
  rw [List.getElem?_replicate]
  by_cases h : j < N <;> simp [dnB, h]
theorem flatB (bs : List Bool) : flat Vm.kB bs = bs.map .bool := by
  induction bs with
  | nil => rfl
  | cons b r ih =>
    show [Value.bool b] ++ flat Vm.kB r = _
    rw [ih]
    rfl
theorem dnB_set {N n : Nat} (h : n < N) : (flat Vm.kB (dnB N n)).toArray.setIfInBounds n (.bool true) = (flat Vm.kB (dnB N (n + 1))).toArray := by
  rw [flatB, flatB, List.setIfInBounds_toArray]
  congr 1
  apply List.ext_getElem?
  intro j
  rw [List.getElem?_set]
  by_cases e : n = j
  · subst e
    simp [dnB, h]
  · rw [if_neg e]
    by_cases hj : j < N
    · have : (j < n) = (j < n + 1) := by apply propext; omega
      simp [dnB, hj, this]
    · simp [dnB, hj]
section
variable {P : Program} {ops : Array Oper} {rest : List Oper} {o : Oper} {a : Act} {Q : Exit → Act → World → Prop}
theorem wpList_make_bools (w : World) (hg : o.guard = none) (l c : Operand) (t : TypeId) (hop : o.op = Op.makeSlice t l c) (e : TypeId) (hu : P.underlying t = some (.slice e)) (hinfo : (P.info? e).map (fun i => (i.zero, i.size, i.bytes)) = some (some (.bool false), 1, 1))
    (n : Nat) (L : Int) (hl : a.eval l = .int .i64 L) (hc : a.eval c = .int .i64 L) (hL : L = (n : Int)) (hm : n ≤ 1000)
    (h : ∀ w', Blk w' w.heap.size e (flat Vm.kB (dnB n 0)).toArray → w.grownBy w' none → wpList P ops Q rest (a.put o.dst (.slice (some ⟨w.heap.size, 0, none⟩) n n)) w') : wpList P ops Q (o :: rest) a w := by
  obtain ⟨ie, hie, hz0, hsz, hb⟩ := info_parts hinfo
  refine wpList_make_full w hg l c t hop w.heap.size e ie _ 1 hu hie hz0 hsz .i64 .i64 L L n hl hc hL hL (by rw [hb]; omega) (by unfold maxLen; omega) (Nat.le_refl _) ?_
  intro w' h1 h2
  refine h w' ?_ h2
  have hm2 := made_flat Vm.kB n
  rw [show Vm.kB.d = false from rfl, dnB_zero] at hm2
  have hm2 : (madeCells #[Value.bool false] (n * 1)).toList = flat Vm.kB (dnB n 0) := hm2
  have h1 : w'.ownsRow w.heap.size e 1 (.slice (some ⟨w.heap.size, 0, none⟩) n n) n (madeCells #[Value.bool false] (n * 1)).toList := h1
  rw [hm2] at h1
  rcases h1.2 with ⟨e', _⟩ | ⟨g, cap, cur, e', hb', hg', hnc, hcm, hcs', ht⟩
  · cases e'
  · injection e' with e1 e2 e3
    injection e1 with e1
    injection e1 with e1
    subst e1
    subst e3
    have : cur = (flat Vm.kB (dnB n 0)).toArray := by
      rw [← ht, List.take_of_length_le (by simpa using Nat.le_of_eq hcs')]
    rw [← this]
    exact hg'
end
theorem lstB {w : World} {g : Nat} {t : TypeId} {N n : Nat} (h : Blk w g t (flat Vm.kB (dnB N n)).toArray) : Lst Vm.kB w w.heap.size (some ⟨g, 0, none⟩) N (dnB N n) := lst_whole h (dnB_length N n) (fun _ _ => trivial)
theorem ready_dn {K : Int} {T M : Nat} {l : List Tk} (h : OrdP K T M l) {n : Nat} {t : Tk} (ht : l[n]? = some t) : readyT K l (T : Int) (dnB l.length n) (some t) = true := by
  show (readsT (T : Int) t).all (thereT K l (dnB l.length n)) = true
  rw [List.all_eq_true]
  intro s hs
  have h1 := h.rd n t s ht hs
  have h2 := (List.getElem?_eq_some_iff.1 ht).1
  unfold thereT
  by_cases h0 : makesT K l s < 0
  · rw [decide_eq_true h0]; rfl
  · rw [dnB_length, decide_eq_true (show makesT K l s < (l.length : Int) by omega), dnB_at (by omega) (by omega)]
    simp
theorem fresh_w {K : Int} {T M : Nat} {l : List Tk} (h : OrdP K T M l) {n m : Nat} {t : Tk} (ht : l[n]? = some t) (hm : m < (writesT K t).length) : (writesT K t).getD m S0 ∉ (l.take n).flatMap (writesT K) ++ (writesT K t).take m := by
  have e : (writesT K t).getD m S0 = (writesT K t)[m] := by simp [List.getD_eq_getElem?_getD, List.getElem?_eq_getElem hm]
  rw [e]
  intro hc
  rcases List.mem_append.1 hc with hc | hc
  · obtain ⟨u, hu, hc⟩ := List.mem_flatMap.1 hc
    obtain ⟨j, hj, rfl⟩ := List.getElem_of_mem hu
    have hj' : j < n := by rw [List.length_take] at hj; omega
    have hjl : j < l.length := by rw [List.length_take] at hj; omega
    have h1 := h.made j _ _ (show l[j]? = some (l.take n)[j] by rw [List.getElem_take, List.getElem?_eq_getElem hjl]) hc
    have h2 := h.made n t _ ht (List.getElem_mem hm)
    omega
  · have hn := h.nd n t ht
    obtain ⟨j, hj, e2⟩ := List.getElem_of_mem hc
    rw [List.length_take] at hj
    rw [List.getElem_take] at e2
    exact List.pairwise_iff_getElem.1 hn j m (by omega) hm (by omega) e2
theorem flat_next {K : Int} {l : List Tk} {n : Nat} {t : Tk} (ht : l[n]? = some t) : (l.take n).flatMap (writesT K) ++ writesT K t = (l.take (n + 1)).flatMap (writesT K) := by
  rw [List.take_add_one, ht, List.flatMap_append]
  simp
end Go.Proofs.YtipmfficjomcoaaDoor.Sh
namespace Go.Proofs.YtipmfficjomcoaaDoor.Sp
open Go.RowKit Go.ChangeShapes Go.WideShapes Mem Rc Sl Vm
section
variable {H : Type} {enc : TypeId × Value → H} {w : World} {base : Nat} {held : Bool}
theorem params_fields : ∃ f0 f1 f2 f3 : Field, Tryd.prog.underlying 23 = some (.struct #[f0, f1, f2, f3]) ∧ (f0.offset = 0 ∧ f0.type = 3) ∧ (f1.offset = 1 ∧ f1.type = 3) ∧ (f2.offset = 2 ∧ f2.type = 3) ∧ (f3.offset = 3 ∧ f3.type = 3) :=
  ⟨_, _, _, _, Tryd.underlying23, ⟨rfl, rfl⟩, ⟨rfl, rfl⟩, ⟨rfl, rfl⟩, ⟨rfl, rfl⟩⟩
set_option maxRecDepth 100000 in
theorem open_params {r : Reach} {b0 : Nat} {v : Value} {d : DataW H} {p : List MemPlace} (hval : Value.okWide Tryd.prog w r b0 23 v) (h : DataW.Trod enc Tryd.prog w base (fun _ => true) held 23 v d p) :
    ∃ pr pk pb pw : Int, v = .agg #[.int .i64 pr, .int .i64 pk, .int .i64 pb, .int .i64 pw] ∧ (Lit.int .i64 pr).wf = true ∧ (Lit.int .i64 pk).wf = true ∧ (Lit.int .i64 pb).wf = true ∧ (Lit.int .i64 pw).wf = true := by
  obtain ⟨f0, f1, f2, f3, hu, ⟨o0, t0⟩, ⟨o1, t1⟩, ⟨o2, t2⟩, ⟨o3, t3⟩⟩ := params_fields
  obtain ⟨cs, rfl, hsz⟩ := okWide_struct hu hval
  obtain ⟨fuel, hf⟩ := h
  simp only [Value.cells] at hf
  obtain ⟨xs, m, _, _, hl, hxl, hel⟩ := DataW.trod_struct hu hf
  have ci : Tryd.prog.cellsOf 3 = 1 := by kernel_rfl
  have cc : Tryd.prog.cellsOf 23 = 4 := by kernel_rfl
  rw [cc] at hl
  have hx4 : xs.length = 4 := hxl
  have e0 := hel 0 f0 rfl
  have e1 := hel 1 f1 rfl
  have e2 := hel 2 f2 rfl
  have e3 := hel 3 f3 rfl
  rw [o0, t0, ci] at e0
  rw [o1, t1, ci] at e1
  rw [o2, t2, ci] at e2
  rw [o3, t3, ci] at e3
  obtain ⟨z0, q0, w0⟩ := field_int (by omega) Tryd.underlying3 e0 (by simp [hx4])
  obtain ⟨z1, q1, w1⟩ := field_int (by omega) Tryd.underlying3 e1 (by simp [hx4])
  obtain ⟨z2, q2, w2⟩ := field_int (by omega) Tryd.underlying3 e2 (by simp [hx4])
  obtain ⟨z3, q3, w3⟩ := field_int (by omega) Tryd.underlying3 e3 (by simp [hx4])
  refine ⟨z0, z1, z2, z3, ?_, w0, w1, w2, w3⟩
  congr 1
  apply Array.ext'
  apply List.ext_getElem?
  intro i
  match i with
  | 0 => exact q0
  | 1 => exact q1
  | 2 => exact q2
  | 3 => exact q3
  | i + 4 => rw [List.getElem?_eq_none (by omega), List.getElem?_eq_none (by simp)]
end
end Go.Proofs.YtipmfficjomcoaaDoor.Sp
