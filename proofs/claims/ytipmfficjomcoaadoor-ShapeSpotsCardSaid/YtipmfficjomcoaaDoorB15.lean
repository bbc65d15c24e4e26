/-
  Package shape's Ready, by its contract.
  The document's Writes (package dominoref17), by its contract.
  The document's Reads (package dominoref17), by its contract.
-/
import Derived.Test.YtipmfficjomcoaaDoorB14
import Derived.Test.YtipmfficjomcoaaDoorB12
import Derived.Test.YtipmfficjomcoaaDoorB13
import Derived.Test.YtipmfficjomcoaaDoorB5
set_option linter.unusedVariables false
namespace Go.Proofs.YtipmfficjomcoaaDoor.Sh
open Go.RowKit Go.Shelf Mem Held Go.Proofs.YtipmfficjomcoaaDoor.Range Sl
attribute [local go_sem] Oper.semAt_some
attribute [local irreducible] wpList wpListIn Calls
theorem all_false {l : List Sp} {f : Sp → Bool} {i : Nat} (hi : i < l.length) (h : f (l.getD i S0) = false) : l.all f = false := by
  rw [List.getD_eq_getElem?_getD, List.getElem?_eq_getElem hi] at h
  rw [List.all_eq_false]
  exact ⟨_, List.getElem_mem hi, by rw [show f l[i] = false from h]; simp⟩
theorem all_true {l : List Sp} {f : Sp → Bool} (h : ∀ i, i < l.length → f (l.getD i S0) = true) : l.all f = true := by
  rw [List.all_eq_true]
  intro s hs
  obtain ⟨i, hi, rfl⟩ := List.getElem_of_mem hs
  have := h i hi
  rwa [List.getD_eq_getElem?_getD, List.getElem?_eq_getElem hi] at this
set_option maxRecDepth 100000 in
set_option maxHeartbeats 8000000 in
theorem ready_of (B : Nat) (Ad : Option Addr) (nd cd : Nat) (bs : List Bool) (r k b wk n : Int) (hk0 : -9223372036854775808 ≤ k) (hk1 : k ≤ 9223372036854775807) (hn0 : -9223372036854775808 ≤ n) (hn1 : n ≤ 9223372036854775807) (w : World) (hT : Bi.TzT w) (hd : Lst Vm.kB w B Ad nd bs) (hB : B ≤ w.heap.size) :
    Calls Tryd.prog 24 #[.agg #[.int .i64 r, .int .i64 k, .int .i64 b, .int .i64 wk], .slice Ad nd cd, .int .i64 n] w fun e w' => e = .returned (.bool (readyT k (tasksT (inN r k b wk) (mpN r k b wk) (mN r k b wk) (tN r k b wk)) (tN r k b wk : Int) bs (taskAt (tasksT (inN r k b wk) (mpN r k b wk) (mN r k b wk) (tN r k b wk)) n))) ∧ Below w.heap.size w w' := by
  have HMK := Lib.hid (fun (ph rd ad : Int) (W : World) (hT : Bi.TzT W) => makes_any r k b wk ph rd ad hk0 hk1 W hT)
  have hdl := hd.1
  have h := job_of (r := r) (b := b) (wk := wk) hk0 hk1
  have HK := Lib.hid (fun (i : Nat) (t : Tk) (ht : (tasksT (inN r k b wk) (mpN r k b wk) (mN r k b wk) (tN r k b wk))[i]? = some t) => task_right ht)
  have HJ := Lib.hid (fun (W : World) => jobOf_any r k b wk W)
  have HTA := Lib.hid (fun (W : World) (hT : Bi.TzT W) => task_any r k b wk n hk0 hk1 hn0 hn1 W hT)
  generalize inN r k b wk = I at *
  generalize mpN r k b wk = mp at *
  generalize mN r k b wk = M at *
  generalize tN r k b wk = T at *
  cases htk : taskAt (tasksT I mp M T) n with
  | none =>
    rw [htk] at HTA
    have HTA : Hid (∀ (W : World), Bi.TzT W → Calls Tryd.prog 16 #[.agg #[.int .i64 r, .int .i64 k, .int .i64 b, .int .i64 wk], .int .i64 n] W fun e w' => e = .returned (.tuple #[.agg #[.int .i64 0, .int .i64 0, .int .i64 0, .int .i64 0, .bool false], .bool false]) ∧ Below W.heap.size W w') := HTA
    clear htk HJ HK h
    go_enter Tryd.func24, Tryd.ntmps24
    go_wp2_with (first
      | (refine wpList_box_blk (w := w) rfl 23 _ rfl _ rfl ?_; intro u1 qu1 gu1 zu1; have b1 : Below w.heap.size w u1 := (Below.refl _ w).grown gu1 (Nat.le_refl _) (by simp))
      | (refine wpList_load_blk (w := u1) rfl 23 _ rfl (w.heap.size) 4 rfl 23 _ qu1 _ Tryd.underlying23 rfl (by kernel_rfl) rfl ?_))
    refine (HTA.out u1 (hT.below b1 hT.lt)).mono ?_
    rintro e u2 ⟨rfl, b2⟩
    have bo := b1.trans (b2.mono b1.size)
    go_wp2_with (first
      | (refine wpList_alloc_blk (w := u2) rfl 34 rfl #[.int .i64 0, .int .i64 0, .int .i64 0, .int .i64 0, .bool false] (by kernel_rfl) ?_; intro u3 qu3 gu3 zu3)
      | (refine wpList_store_blk (w := u3) rfl 34 _ _ rfl (u2.heap.size) 5 rfl 34 _ #[.int .i64 0, .int .i64 0, .int .i64 0, .int .i64 0, .bool false] rfl qu3 (by kernel_rfl) rfl rfl (by kernel_rfl) ?_; intro u4 qu4 gu4 zu4; have bo4 : Below w.heap.size w u4 := (bo.grown gu3 bo.size (by simp)).grown gu4 (Nat.le_trans bo.size gu3.size) (fun r e => by injection e with e; have := bo.size; omega)))
    go_ret
    exact ⟨rfl, bo4⟩
  | some t =>
    have hat := taskAt_at htk
    have hb := tasks_bi h hat
    rw [htk] at HTA
    have HRL := Lib.hid (reads_length (T : Int) t)
    have HRS := Lib.hid (show readyT k (tasksT I mp M T) (T : Int) bs (some t) = (readsT (T : Int) t).all (thereT k (tasksT I mp M T) bs) from rfl)
    have HRW := Lib.hid (reads_wf hb (show (0 : Int) ≤ (T : Int) by omega) (by have := h.t15; omega))
    have HML := Lib.hid (fun s => makesT_le k (tasksT I mp M T) s)
    have HLN := Lib.hid (show (tasksT I mp M T).length ≤ 1000 by rw [tasks_length h]; exact cn_le h (by omega))
    obtain ⟨kd, rd, ta, tb, up⟩ := t
    have HTA : Hid (∀ (W : World), Bi.TzT W → Calls Tryd.prog 16 #[.agg #[.int .i64 r, .int .i64 k, .int .i64 b, .int .i64 wk], .int .i64 n] W fun e w' => e = .returned (.tuple #[.agg #[.int .i64 kd, .int .i64 rd, .int .i64 ta, .int .i64 tb, .bool up], .bool true]) ∧ Below W.heap.size W w') := HTA
    rw [HRS.out]
    clear htk HK hat HRS
    go_enter Tryd.func24, Tryd.ntmps24
    go_wp2_with (first
      | (refine wpList_box_blk (w := w) rfl 23 _ rfl _ rfl ?_; intro u1 qu1 gu1 zu1; have b1 : Below w.heap.size w u1 := (Below.refl _ w).grown gu1 (Nat.le_refl _) (by simp))
      | (refine wpList_load_blk (w := u1) rfl 23 _ rfl (w.heap.size) 4 rfl 23 _ qu1 _ Tryd.underlying23 rfl (by kernel_rfl) rfl ?_))
    refine (HTA.out u1 (hT.below b1 hT.lt)).mono ?_
    rintro e u2 ⟨rfl, b2⟩
    have bo := b1.trans (b2.mono b1.size)
    have qp2 := qu1.after b2
    go_wp2_with (first
      | (refine wpList_alloc_blk (w := u2) rfl 34 rfl #[.int .i64 0, .int .i64 0, .int .i64 0, .int .i64 0, .bool false] (by kernel_rfl) ?_; intro u3 qu3 gu3 zu3)
      | (refine wpList_store_blk (w := u3) rfl 34 _ _ rfl (u2.heap.size) 5 rfl 34 _ #[.int .i64 kd, .int .i64 rd, .int .i64 ta, .int .i64 tb, .bool up] rfl qu3 (by kernel_rfl) rfl rfl (by kernel_rfl) ?_; intro u4 qu4 gu4 zu4; have bo4 : Below w.heap.size w u4 := (bo.grown gu3 bo.size (by simp)).grown gu4 (Nat.le_trans bo.size gu3.size) (fun r e => by injection e with e; have := bo.size; omega); have qp4 := (qp2.grown gu3 (by simp)).grown gu4 (by intro e; injection e with e; have := qp2.lt; omega); have qt4 := qu4))
    generalize u2.heap.size = bt at *
    clear b1 b2 bo gu1 gu3 gu4 zu1 zu3 zu4 qu1 qu3 qp2 HTA
    refine wp_region_held (S := fun W => Below u4.heap.size u4 W) (by kernel_rfl) ?_
    change wpAnyH _ _ _ _ _ _ _ _ u4.drew
    have c0_0 := (Below.refl u4.heap.size u4).drew
    refine Held.tk (v := .agg #[.int .i64 r, .int .i64 k, .int .i64 b, .int .i64 wk]) 0 (some 20) rfl (Held.y_load_blk (n := 4) rfl rfl Tryd.underlying23 rfl (by kernel_rfl) rfl (fun W hW => qp4.after hW)) c0_0 ?_
    simp only [Act.put, Z1, Z2, Z3]
    refine Held.tk (v := .agg #[.int .i64 kd, .int .i64 rd, .int .i64 ta, .int .i64 tb, .bool up]) 2 (some 22) rfl (Held.y_load_blk (n := 5) rfl rfl Tryd.underlying34 rfl (by kernel_rfl) rfl (fun W hW => qt4.after hW)) c0_0 ?_
    simp only [Act.put, Z1, Z2, Z3]
    refine Held.tk (v := (.int .i64 0)) 5 (some 25) rfl (Held.y_move rfl rfl) c0_0 ?_
    simp only [Act.put, Z1, Z2, Z3]
    refine Held.one 1 (by kernel_rfl) ?_
    refine Held.op_call 1 (some 21) 33 #[.agg #[.int .i64 r, .int .i64 k, .int .i64 b, .int .i64 wk]] rfl rfl rfl rfl (enters_of Tryd.func33 (by kernel_rfl) rfl) (by simp [Act.eval])
      (HJ.out _) ?_
    rintro e w1 ⟨rfl, b1⟩
    have c0_1 := c0_0.trans (b1.mono c0_0.size)
    refine ⟨_, rfl, c0_1, ?_⟩
    simp only [Act.put, Z1, Z2, Z3]
    refine Held.one 3 (by kernel_rfl) ?_
    refine Held.op_call 3 (some 23) 42 #[.agg #[.int .i64 k, .int .i64 (I : Int), .int .i64 (M : Int)], .agg #[.int .i64 kd, .int .i64 rd, .int .i64 ta, .int .i64 tb, .bool up]] rfl rfl rfl rfl (enters_of Tryd.func42 (by kernel_rfl) rfl) (by simp [Act.eval])
      (reads_any k I mp M T kd rd ta tb up h hb _ (hT.below (bo4.trans (c0_1.mono bo4.size)) hT.lt)) ?_
    rintro e w2 ⟨A1, n1, c1, rfl, hn1, o1, b2⟩
    have c0_2 := c0_1.trans (b2.mono c0_1.size)
    refine ⟨_, rfl, c0_2, ?_⟩
    simp only [Act.put, Z1, Z2, Z3]
    refine Held.tk (v := .int .i64 (n1 : Int)) 4 (some 24) rfl (Held.y_len rfl rfl Tryd.underlying47) c0_2 ?_
    simp only [Act.put, Z1, Z2, Z3]
    refine wpAnyH_done (by kernel_rfl) ?_ _
    have bz := bo4.trans (c0_2.mono bo4.size)
    have hbz := bo4.size
    have hp2 := qp4.after c0_2
    have l2 : w2.heap.size ≤ w2.heap.size := Nat.le_refl _
    have HN1 := hn1
    have hwf2 := fun s hs => HRW.out s hs
    have ol : Lst kS w2 w2.heap.size A1 n1 (readsT (T : Int) ⟨kd, rd, ta, tb, up⟩) := OwnL.lst o1 (fun s hs => HRW.out s hs)
    have hwz := bz.size
    obtain ⟨rs, hrs⟩ : ∃ rs, readsT (T : Int) ⟨kd, rd, ta, tb, up⟩ = rs := ⟨_, rfl⟩
    rw [hrs] at ol HN1 HRL
    have HRS := Lib.hid hrs
    have hn2 : n1 ≤ 2 := by have := HRL.out; have := HN1.out; omega
    have hlp : w.heap.size < w2.heap.size := hp2.lt
    clear qt4 qp4 c0_0 c0_1 c0_2 o1 bo4 b1 b2 hn1 hwf2 l2 h hb HJ HRW hrs
    go_wp2_with fail
    go_loopw [10, 11, 25] (fun u v i wr => ∃ m : Nat, m ≤ n1 ∧ i = .int .i64 m ∧ Hid (∀ j, j < m → thereT k (tasksT I mp M T) bs (rs.getD j S0) = true) ∧ Lst kS wr w2.heap.size A1 n1 rs ∧ Blk wr w.heap.size 23 #[.int .i64 r, .int .i64 k, .int .i64 b, .int .i64 wk] ∧ Below w.heap.size w wr ∧ w2.heap.size ≤ wr.heap.size) (fun _ _ i _ => n1 - (intOf i).toNat)
    case atStart => exact ⟨0, by omega, rfl, Lib.hid (fun j hj => by omega), ol, hp2, bz, Nat.le_refl _⟩
    case round =>
      clear ol hp2 bz
      obtain ⟨m, hm, rfl, hth, hl, qp, bw, hzz⟩ := hrel
      have hwr := bw.size
      by_cases hlt : m < n1
      · have hlt' : (m : Int) < (n1 : Int) := by omega
        have hm0 : (0 : Int) ≤ (m : Int) := by omega
        have hmr : m < rs.length := by have := HN1.out; omega
        have hadd : IntKind.i64.wrap ((m : Int) + 1) = (m : Int) + 1 := by rw [IntKind.wrap_i64]; omega
        obtain ⟨bl, off, rfl, hbl, hc⟩ := hl.at_ hlt
        have HTH := Lib.hid (show ∀ bb, thereT k (tasksT I mp M T) bs (rs.getD m S0) = bb → thereT k (tasksT I mp M T) bs (rs.getD m S0) = bb from fun _ h => h)
        have HAF := Lib.hid (fun (h : thereT k (tasksT I mp M T) bs (rs.getD m S0) = false) => all_false hmr h)
        have HST := Lib.hid (fun (h : thereT k (tasksT I mp M T) bs (rs.getD m S0) = true) => show ∀ j, j < m + 1 → thereT k (tasksT I mp M T) bs (rs.getD j S0) = true from fun j hj => by
          rcases Nat.lt_or_ge j m with c | c
          · exact hth.out j c
          · obtain rfl : j = m := by omega
            exact h)
        have hml := HML.out (rs.getD m S0)
        have HTD := Lib.hid (show thereT k (tasksT I mp M T) bs (rs.getD m S0) = (decide (makesT k (tasksT I mp M T) (rs.getD m S0) < 0) || (decide (makesT k (tasksT I mp M T) (rs.getD m S0) < (bs.length : Int)) && bs.getD (makesT k (tasksT I mp M T) (rs.getD m S0)).toNat false)) from rfl)
        change wr.rangeAt bl (off + m * 3) (kS.cells (rs.getD m S0)) at hc
        generalize rs.getD m S0 = s at hc hml HAF HST HTD
        obtain ⟨ph, rd', ad⟩ := s
        have hc0 : wr.cell? ⟨bl, off + m * 3, none⟩ = some (.int .i64 ph) := hc 0 _ rfl
        have hc1 : wr.cell? ⟨bl, off + m * 3 + 1, none⟩ = some (.int .i64 rd') := hc 1 _ rfl
        have hc2 : wr.cell? ⟨bl, off + m * 3 + 2, none⟩ = some (.int .i64 ad) := hc 2 _ rfl
        have hln := HLN.out
        clear HTH
        obtain ⟨mk, hmk⟩ : ∃ mk, makesT k (tasksT I mp M T) ⟨ph, rd', ad⟩ = mk := ⟨_, rfl⟩
        rw [hmk] at hml HTD
        have HMQ := Lib.hid hmk
        clear hmk
        go_wp2_with (first
          | (refine wpList_load_mid rfl 42 _ rfl bl (off + m * 3) rfl (kS.cells ⟨ph, rd', ad⟩) _ hc Tryd.underlying42 rfl (by kernel_rfl) ?_)
          | (refine wpList_alloc_blk (w := wr) rfl 42 rfl #[.int .i64 0, .int .i64 0, .int .i64 0] (by kernel_rfl) ?_; intro v1 qv1 gv1 zv1; have qp1 := qp.grown gv1 (by simp))
          | (refine wpList_store_blk (w := v1) rfl 42 _ _ rfl (wr.heap.size) 3 rfl 42 _ #[.int .i64 ph, .int .i64 rd', .int .i64 ad] rfl qv1 (by kernel_rfl) rfl rfl (by kernel_rfl) ?_; intro v2 qv2 gv2 zv2; have bv : Below wr.heap.size wr v2 := ((Below.refl _ wr).grown gv1 (Nat.le_refl _) (by simp)).grown gv2 gv1.size (fun r e => by cases e; exact Nat.le_refl _); have qp2 := qp.after bv)
          | (refine wpList_load_blk (w := v2) rfl 23 _ rfl (w.heap.size) 4 rfl 23 _ qp2 _ Tryd.underlying23 rfl (by kernel_rfl) rfl ?_)
          | (refine wpList_load_blk (w := v2) rfl 42 _ rfl (wr.heap.size) 3 rfl 42 _ qv2 _ Tryd.underlying42 rfl (by kernel_rfl) rfl ?_))
        have bw2 := bw.trans (bv.mono hwr)
        have hl2 := hl.below (bv.mono hzz)
        have hv2 := bv.size
        refine (HMK.out ph rd' ad v2 (hT.below bw2 hT.lt)).mono ?_
        rintro e v3 ⟨rfl, b3⟩
        rw [HMQ.out]
        have bw3 := bw2.trans (b3.mono bw2.size)
        have hl3 := hl2.below (b3.mono (by omega))
        have qp3 := qp2.after b3
        have hd3 := hd.below (bw3.mono hB)
        have hz3 := b3.size
        clear gv1 gv2 zv1 zv2 qv1 qv2 bv qp1 qp2 qp bw bw2 b3 hl hl2 hc hc0 hc1 hc2
        by_cases hA : (nd : Int) ≤ mk
        · have hdA : decide ((nd : Int) ≤ mk) = true := decide_eq_true hA
          have HF := Lib.hid (HAF.out (by rw [HTD.out, decide_eq_false (show ¬ mk < 0 by omega), decide_eq_false (show ¬ mk < (bs.length : Int) by omega)]; rfl))
          clear hA
          go_wp2_with (first
            | (refine Held.wpList_run (w := v3) rfl (v := .bool true) (Sp.y_geq (S := fun _ => True) rfl rfl rfl hdA _ trivial) ?_))
          go_ret
          exact ⟨Mem.ret_bool (by rw [HRS.out]; exact HF.out.symm), bw3⟩
        · have hdA : decide ((nd : Int) ≤ mk) = false := decide_eq_false hA
          by_cases hB0 : (0 : Int) ≤ mk
          · obtain ⟨mn, rfl⟩ : ∃ mn : Nat, mk = (mn : Int) := ⟨mk.toNat, by omega⟩
            have hdB : decide ((0 : Int) ≤ (mn : Int)) = true := decide_eq_true hB0
            have hmn : mn < nd := by omega
            have hmn' : (mn : Int) < (nd : Int) := by omega
            obtain ⟨bd, offd, rfl, hbd, hcd⟩ := hd3.at_ hmn
            have hcd : v3.cell? ⟨bd, offd + mn, none⟩ = some (.bool (bs.getD mn false)) := by
              have := hcd 0 _ rfl
              simpa [Vm.kB] using this
            have HTB := Lib.hid (show thereT k (tasksT I mp M T) bs ⟨ph, rd', ad⟩ = bs.getD mn false by
              rw [HTD.out, decide_eq_false (show ¬ (mn : Int) < 0 by omega), decide_eq_true (show (mn : Int) < (bs.length : Int) by omega), Int.toNat_natCast]
              rfl)
            generalize bs.getD mn false = bb at hcd HTB
            clear hA hml
            cases bb with
            | false =>
              have HF := Lib.hid (HAF.out HTB.out)
              go_wp2_with (first
                | (refine Held.wpList_run (w := v3) rfl (v := .bool false) (Sp.y_geq (S := fun _ => True) rfl rfl rfl hdA _ trivial) ?_)
                | (refine Held.wpList_run (w := v3) rfl (v := .bool true) (Sp.y_geq (S := fun _ => True) rfl rfl rfl hdB _ trivial) ?_))
              go_ret
              exact ⟨Mem.ret_bool (by rw [HRS.out]; exact HF.out.symm), bw3⟩
            | true =>
              have HF := Lib.hid (HST.out HTB.out)
              go_wp2_with (first
                | (refine Held.wpList_run (w := v3) rfl (v := .bool false) (Sp.y_geq (S := fun _ => True) rfl rfl rfl hdA _ trivial) ?_)
                | (refine Held.wpList_run (w := v3) rfl (v := .bool true) (Sp.y_geq (S := fun _ => True) rfl rfl rfl hdB _ trivial) ?_))
              go_roundw
              case rel => exact ⟨m + 1, by omega, by go_num, HF, hl3, qp3, bw3, by omega⟩
              case measure => simp [intOf]; omega
          · have hdB : decide ((0 : Int) ≤ mk) = false := decide_eq_false hB0
            have HF := Lib.hid (HST.out (by rw [HTD.out, decide_eq_true (show mk < 0 by omega)]; rfl))
            clear hA hB0 hml
            go_wp2_with (first
              | (refine Held.wpList_run (w := v3) rfl (v := .bool false) (Sp.y_geq (S := fun _ => True) rfl rfl rfl hdA _ trivial) ?_)
              | (refine Held.wpList_run (w := v3) rfl (v := .bool false) (Sp.y_geq (S := fun _ => True) rfl rfl rfl hdB _ trivial) ?_))
            go_roundw
            case rel => exact ⟨m + 1, by omega, by go_num, HF, hl3, qp3, bw3, by omega⟩
            case measure => simp [intOf]; omega
      · obtain rfl : m = n1 := by omega
        have HR := Lib.hid (show rs.all (thereT k (tasksT I mp M T) bs) = true from all_true (fun i hi => hth.out i (by have := HN1.out; omega)))
        go_wp2_with fail
        go_ret
        exact ⟨Mem.ret_bool (by rw [HRS.out]; exact HR.out.symm), bw⟩
end Go.Proofs.YtipmfficjomcoaaDoor.Sh
namespace Go.Proofs.YtipmfficjomcoaaDoor.Sh
open Go.RowKit Go.Shelf Mem Held Rs Go.Proofs.YtipmfficjomcoaaDoor.Range Sl
attribute [local go_sem] Oper.semAt_some
attribute [local irreducible] wpList wpListIn Calls
theorem taskAt_lt {l : List Tk} {n : Int} (h : n < 0) : taskAt l n = none := by
  unfold taskAt
  rw [if_pos h]
theorem taskAt_ge {l : List Tk} {n : Int} (h0 : ¬ n < 0) (h : (l.length : Int) ≤ n) : taskAt l n = none := by
  unfold taskAt
  rw [if_neg h0]
  exact List.getElem?_eq_none (by omega)
set_option maxRecDepth 100000 in
set_option maxHeartbeats 8000000 in
theorem rwrites_of (r k b wk n : Int) (hk0 : -9223372036854775808 ≤ k) (hk1 : k ≤ 9223372036854775807) (w : World) :
    Calls Tryd.prog 21 #[.agg #[.int .i64 r, .int .i64 k, .int .i64 b, .int .i64 wk], .int .i64 n] w fun e w' => ∃ A m c, e = .returned (.slice A m c) ∧ Hid ((writesO k (taskAt (tasksT (inN r k b wk) (mpN r k b wk) (mN r k b wk) (tN r k b wk)) n)).length = m) ∧ OwnL kS 42 w' w.heap.size (.slice A m c) (writesO k (taskAt (tasksT (inN r k b wk) (mpN r k b wk) (mN r k b wk) (tN r k b wk)) n)) ∧ Below w.heap.size w w' := by
  have h := job_of (r := r) (b := b) (wk := wk) hk0 hk1
  have HK := Lib.hid (fun (i : Nat) (t : Tk) (ht : (tasksT (inN r k b wk) (mpN r k b wk) (mN r k b wk) (tN r k b wk))[i]? = some t) => task_right ht)
  have HRT := Lib.hid (fun W => rtasks_any r k b wk hk0 hk1 W)
  have HTB := Lib.hid (fun (i : Nat) (t : Tk) (ht : (tasksT (inN r k b wk) (mpN r k b wk) (mN r k b wk) (tN r k b wk))[i]? = some t) => tasks_bi h ht)
  have HWF := Lib.hid (show ∀ t ∈ tasksT (inN r k b wk) (mpN r k b wk) (mN r k b wk) (tN r k b wk), kT.wf t from fun t ht => (tasks_b h ht).wf)
  generalize tasksT (inN r k b wk) (mpN r k b wk) (mN r k b wk) (tN r k b wk) = l at *
  clear h
  by_cases hn : n < 0
  · have HE := Lib.hid (taskAt_lt (l := l) hn)
    rw [HE.out]
    go_enter Tryd.func21, Tryd.ntmps21
    go_wp2_with (first
      | (refine wpList_box_blk (w := w) rfl 23 _ rfl _ rfl ?_; intro u1 qu1 gu1 zu1; have b1 : Below w.heap.size w u1 := (Below.refl _ w).grown gu1 (Nat.le_refl _) (by simp))
      | (refine wpList_load_blk (w := u1) rfl 23 _ rfl (w.heap.size) 4 rfl 23 _ qu1 _ Tryd.underlying23 rfl (by kernel_rfl) rfl ?_))
    refine (HRT.out u1).mono ?_
    rintro e u2 ⟨A0, N, c0, rfl, hN, o2, b2⟩
    have bo := b1.trans (b2.mono b1.size)
    go_wp2_with fail
    go_ret
    exact ⟨_, _, _, rfl, Lib.hid rfl, OwnL.nil _ _ _ _, bo⟩
  · obtain ⟨i, rfl⟩ : ∃ i : Nat, n = (i : Int) := ⟨n.toNat, by omega⟩
    by_cases hlm : i < l.length
    · obtain ⟨t, ht⟩ : ∃ t, l[i]? = some t := ⟨_, List.getElem?_eq_getElem hlm⟩
      have HE := Lib.hid (taskAt_some ht rfl)
      have hb := HTB.out i t ht
      have HK0 := Lib.hid (show 0 ≤ k ∧ k ≤ 4 by have := HK.out i t ht; omega)
      have hge : l.getD i T0 = t := by rw [List.getD_eq_getElem?_getD, ht]; rfl
      rw [HE.out]
      obtain ⟨kd, rd, ta, tb, up⟩ := t
      have HG := Lib.hid hge
      clear ht hge HK HTB
      go_enter Tryd.func21, Tryd.ntmps21
      go_wp2_with (first
        | (refine wpList_box_blk (w := w) rfl 23 _ rfl _ rfl ?_; intro u1 qu1 gu1 zu1; have b1 : Below w.heap.size w u1 := (Below.refl _ w).grown gu1 (Nat.le_refl _) (by simp))
        | (refine wpList_load_blk (w := u1) rfl 23 _ rfl (w.heap.size) 4 rfl 23 _ qu1 _ Tryd.underlying23 rfl (by kernel_rfl) rfl ?_))
      refine (HRT.out u1).mono ?_
      rintro e u2 ⟨A0, N, c0, rfl, hN, o2, b2⟩
      have qp := qu1.after b2
      have bo := b1.trans (b2.mono b1.size)
      have hbz := bo.size
      have L0 : Lst kT u2 u2.heap.size A0 N l := OwnL.lst o2 HWF.out
      have hN' := hN.out
      rw [hN'] at hlm
      obtain ⟨bl, off, rfl, hbl, hx⟩ := L0.at_ hlm
      have hx : u2.rangeAt bl (off + i * 5) (l.getD i T0).cells := hx
      rw [HG.out] at hx
      have hx : u2.rangeAt bl (off + i * 5) [.int .i64 kd, .int .i64 rd, .int .i64 ta, .int .i64 tb, .bool up] := hx
      have hlm' : (i : Int) < (N : Int) := by omega
      have hi0 : (0 : Int) ≤ (i : Int) := by omega
      have hgeq : decide ((N : Int) ≤ (i : Int)) = false := decide_eq_false (by omega)
      clear o2 b1 b2 L0 hN' hN gu1 zu1 qu1
      go_wp2_with (first
        | (refine Held.wpList_run (w := u2) rfl (v := .bool false) (Sp.y_geq (S := fun _ => True) rfl rfl rfl hgeq _ trivial) ?_))
      refine wp_region_held (S := fun W => Below u2.heap.size u2 W) (by kernel_rfl) ?_
      change wpAnyH _ _ _ _ _ _ _ _ u2.drew
      have c0_0 := (Below.refl u2.heap.size u2).drew
      refine Held.tk (v := .agg #[.int .i64 r, .int .i64 k, .int .i64 b, .int .i64 wk]) 0 (some 16) rfl (Held.y_load_blk (n := 4) rfl rfl Tryd.underlying23 rfl (by kernel_rfl) rfl (fun W hW => qp.after hW)) c0_0 ?_
      simp only [Act.put, Z1, Z2, Z3]
      refine Held.tk (v := .slice (some ⟨bl, off, none⟩) N c0) 1 (some 17) rfl (Held.y_move rfl rfl) c0_0 ?_
      simp only [Act.put, Z1, Z2, Z3]
      refine Held.tk (v := .int .i64 (i : Int)) 2 (some 18) rfl (Held.y_move rfl rfl) c0_0 ?_
      simp only [Act.put, Z1, Z2, Z3]
      refine Held.tk (v := .pointer (some ⟨bl, off + i * 5, none⟩)) 3 (some 19) rfl (Held.y_addr rfl rfl rfl (run_addr_of 28 34 bl off N c0 i 5 .i64 Tryd.underlying28 (by kernel_rfl) hlm)) c0_0 ?_
      simp only [Act.put, Z1, Z2, Z3]
      refine Held.tk (v := .agg #[.int .i64 kd, .int .i64 rd, .int .i64 ta, .int .i64 tb, .bool up]) 4 (some 20) rfl (y_load_range (n := 5) (cs := [.int .i64 kd, .int .i64 rd, .int .i64 ta, .int .i64 tb, .bool up]) rfl rfl Tryd.underlying34 rfl (by kernel_rfl) rfl (fun W hW => range_below hx hW hbl)) c0_0 ?_
      simp only [Act.put, Z1, Z2, Z3]
      refine Held.one 5 (by kernel_rfl) ?_
      refine Held.op_call 5 (some 21) 45 #[.agg #[.int .i64 r, .int .i64 k, .int .i64 b, .int .i64 wk], .agg #[.int .i64 kd, .int .i64 rd, .int .i64 ta, .int .i64 tb, .bool up]] rfl rfl rfl rfl (enters_of Tryd.func45 (by kernel_rfl) rfl) (by simp [Act.eval])
        (rwrites_any r k b wk kd rd ta tb up hb (fun _ => HK0.out) _) ?_
      rintro e w1 ⟨A1, n1, c1, rfl, hn1, o1, b1⟩
      have c0_1 := c0_0.trans (b1.mono c0_0.size)
      refine ⟨_, rfl, c0_1, ?_⟩
      simp only [Act.put, Z1, Z2, Z3]
      refine Held.tk (v := .slice A1 n1 c1) 6 (some 4) rfl (Held.y_assign rfl rfl) c0_1 ?_
      simp only [Act.put, Z1, Z2, Z3]
      refine wpAnyH_done (by kernel_rfl) ?_ _
      have bz := bo.trans (c0_1.mono bo.size)
      have hz1 := c0_1.size
      go_wp2_with fail
      go_ret
      exact ⟨_, _, _, rfl, hn1, o1.less (Nat.le_trans hbz (Nat.le_refl _)), bz⟩
    · have HE := Lib.hid (taskAt_ge (l := l) hn (by omega))
      rw [HE.out]
      go_enter Tryd.func21, Tryd.ntmps21
      go_wp2_with (first
        | (refine wpList_box_blk (w := w) rfl 23 _ rfl _ rfl ?_; intro u1 qu1 gu1 zu1; have b1 : Below w.heap.size w u1 := (Below.refl _ w).grown gu1 (Nat.le_refl _) (by simp))
        | (refine wpList_load_blk (w := u1) rfl 23 _ rfl (w.heap.size) 4 rfl 23 _ qu1 _ Tryd.underlying23 rfl (by kernel_rfl) rfl ?_))
      refine (HRT.out u1).mono ?_
      rintro e u2 ⟨A0, N, c0, rfl, hN, o2, b2⟩
      have bo := b1.trans (b2.mono b1.size)
      have hN' := hN.out
      have hgeq : decide ((N : Int) ≤ (i : Int)) = true := decide_eq_true (by omega)
      go_wp2_with (first
        | (refine Held.wpList_run (w := u2) rfl (v := .bool true) (Sp.y_geq (S := fun _ => True) rfl rfl rfl hgeq _ trivial) ?_))
      go_ret
      exact ⟨_, _, _, rfl, Lib.hid rfl, OwnL.nil _ _ _ _, bo⟩
end Go.Proofs.YtipmfficjomcoaaDoor.Sh
namespace Go.Proofs.YtipmfficjomcoaaDoor.Sh
open Go.RowKit Go.Shelf Mem Held Rs Go.Proofs.YtipmfficjomcoaaDoor.Range Sl
attribute [local go_sem] Oper.semAt_some
attribute [local irreducible] wpList wpListIn Calls
set_option maxRecDepth 100000 in
set_option maxHeartbeats 8000000 in
theorem rreads_of (r k b wk n : Int) (hk0 : -9223372036854775808 ≤ k) (hk1 : k ≤ 9223372036854775807) (w : World) :
    Calls Tryd.prog 19 #[.agg #[.int .i64 r, .int .i64 k, .int .i64 b, .int .i64 wk], .int .i64 n] w fun e w' => ∃ A m c, e = .returned (.slice A m c) ∧ Hid ((readsO (tN r k b wk : Int) (taskAt (tasksT (inN r k b wk) (mpN r k b wk) (mN r k b wk) (tN r k b wk)) n)).length = m) ∧ OwnL kS 42 w' w.heap.size (.slice A m c) (readsO (tN r k b wk : Int) (taskAt (tasksT (inN r k b wk) (mpN r k b wk) (mN r k b wk) (tN r k b wk)) n)) ∧ Below w.heap.size w w' := by
  have h := job_of (r := r) (b := b) (wk := wk) hk0 hk1
  have HRT := Lib.hid (fun W => rtasks_any r k b wk hk0 hk1 W)
  have HB := Lib.hid (fun (W : World) => rblocks_any r k b wk W)
  generalize inN r k b wk = I at *
  generalize mpN r k b wk = mp at *
  generalize mN r k b wk = M at *
  generalize tN r k b wk = T at *
  have h32 := h.m32
  have HRN := fun (W : World) => (Bi.rrounds_any (M : Int) W (by omega) (by omega)).mono (fun e w' (h : _ ∧ W = w') => show _ ∧ Below W.heap.size W w' from ⟨h.1, h.2 ▸ Below.refl _ _⟩)
  rw [h.T] at HRN
  have HRN := Lib.hid HRN
  have HTB := Lib.hid (fun (i : Nat) (t : Tk) (ht : (tasksT I mp M T)[i]? = some t) => tasks_bi h ht)
  have HWF := Lib.hid (show ∀ t ∈ tasksT I mp M T, kT.wf t from fun t ht => (tasks_b h ht).wf)
  have HT15 := Lib.hid h.t15
  generalize tasksT I mp M T = l at *
  clear h h32
  by_cases hn : n < 0
  · have HE := Lib.hid (taskAt_lt (l := l) hn)
    rw [HE.out]
    go_enter Tryd.func19, Tryd.ntmps19
    go_wp2_with (first
      | (refine wpList_box_blk (w := w) rfl 23 _ rfl _ rfl ?_; intro u1 qu1 gu1 zu1; have b1 : Below w.heap.size w u1 := (Below.refl _ w).grown gu1 (Nat.le_refl _) (by simp))
      | (refine wpList_load_blk (w := u1) rfl 23 _ rfl (w.heap.size) 4 rfl 23 _ qu1 _ Tryd.underlying23 rfl (by kernel_rfl) rfl ?_))
    refine (HRT.out u1).mono ?_
    rintro e u2 ⟨A0, N, c0, rfl, hN, o2, b2⟩
    have bo := b1.trans (b2.mono b1.size)
    go_wp2_with fail
    go_ret
    exact ⟨_, _, _, rfl, Lib.hid rfl, OwnL.nil _ _ _ _, bo⟩
  · obtain ⟨i, rfl⟩ : ∃ i : Nat, n = (i : Int) := ⟨n.toNat, by omega⟩
    by_cases hlm : i < l.length
    · obtain ⟨t, ht⟩ : ∃ t, l[i]? = some t := ⟨_, List.getElem?_eq_getElem hlm⟩
      have HE := Lib.hid (taskAt_some ht rfl)
      have hb := HTB.out i t ht
      have hge : l.getD i T0 = t := by rw [List.getD_eq_getElem?_getD, ht]; rfl
      rw [HE.out]
      obtain ⟨kd, rd, ta, tb, up⟩ := t
      have HG := Lib.hid hge
      rw [show readsO (T : Int) (some ⟨kd, rd, ta, tb, up⟩) = readsT (T : Int) ⟨kd, rd, ta, tb, up⟩ from rfl]
      have ha0 : 0 ≤ ta := hb.a0
      have ha1 : ta ≤ 100 := hb.a99
      have hr0 : 0 ≤ rd := hb.r0
      have hr1 : rd ≤ 15 := hb.r15
      have HS := Lib.hid (show IntKind.i64.wrap (rd - 1) = rd - 1 by rw [IntKind.wrap_i64]; omega)
      have hwf := Lib.hid (reads_wf hb (show (0 : Int) ≤ (T : Int) by omega) (by have := HT15.out; omega))
      have hc : kd = 1 ∨ kd = 2 ∨ kd = 3 ∨ kd = 4 ∨ kd = 5 := by
        have h1 : 1 ≤ kd := hb.k1
        have h5 : kd ≤ 5 := hb.k5
        omega
      have hc := Lib.hid hc
      clear ht hge HTB hb
      go_enter Tryd.func19, Tryd.ntmps19
      go_wp2_with (first
        | (refine wpList_box_blk (w := w) rfl 23 _ rfl _ rfl ?_; intro u1 qu1 gu1 zu1; have b1 : Below w.heap.size w u1 := (Below.refl _ w).grown gu1 (Nat.le_refl _) (by simp))
        | (refine wpList_load_blk (w := u1) rfl 23 _ rfl (w.heap.size) 4 rfl 23 _ qu1 _ Tryd.underlying23 rfl (by kernel_rfl) rfl ?_))
      refine (HRT.out u1).mono ?_
      rintro e u2 ⟨A0, N, c0, rfl, hN, o2, b2⟩
      have qp := qu1.after b2
      have bo := b1.trans (b2.mono b1.size)
      have hbz := bo.size
      have L0 : Lst kT u2 u2.heap.size A0 N l := OwnL.lst o2 HWF.out
      have hN' := hN.out
      rw [hN'] at hlm
      obtain ⟨bl, off, rfl, hbl, hx⟩ := L0.at_ hlm
      have hx : u2.rangeAt bl (off + i * 5) (l.getD i T0).cells := hx
      rw [HG.out] at hx
      have hx : u2.rangeAt bl (off + i * 5) [.int .i64 kd, .int .i64 rd, .int .i64 ta, .int .i64 tb, .bool up] := hx
      have hlm' : (i : Int) < (N : Int) := by omega
      have hi0 : (0 : Int) ≤ (i : Int) := by omega
      have hgeq : decide ((N : Int) ≤ (i : Int)) = false := decide_eq_false (by omega)
      clear o2 b1 b2 L0 hN' hN gu1 zu1 qu1
      go_wp2_with (first
        | (refine Held.wpList_run (w := u2) rfl (v := .bool false) (Sp.y_geq (S := fun _ => True) rfl rfl rfl hgeq _ trivial) ?_)
        | (refine wpList_load_mid (w := u2) rfl 34 _ rfl bl (off + i * 5) rfl [.int .i64 kd, .int .i64 rd, .int .i64 ta, .int .i64 tb, .bool up] _ hx Tryd.underlying34 rfl (by kernel_rfl) ?_)
        | (refine wpList_alloc_blk (w := u2) rfl 34 rfl #[.int .i64 0, .int .i64 0, .int .i64 0, .int .i64 0, .bool false] (by kernel_rfl) ?_; intro u3 qu3 gu3 zu3)
        | (refine wpList_store_blk (w := u3) rfl 34 _ _ rfl (u2.heap.size) 5 rfl 34 _ #[.int .i64 kd, .int .i64 rd, .int .i64 ta, .int .i64 tb, .bool up] rfl qu3 (by kernel_rfl) rfl rfl (by kernel_rfl) ?_; intro u4 qu4 gu4 zu4; have bo4 : Below w.heap.size w u4 := (bo.grown gu3 bo.size (by simp)).grown gu4 (Nat.le_trans bo.size gu3.size) (fun r e => by injection e with e; have := bo.size; omega); have qp4 := (qp.grown gu3 (by simp)).grown gu4 (by intro e; injection e with e; have := qp.lt; omega))
        | (refine wpList_load_blk (w := u4) rfl 23 _ rfl (w.heap.size) 4 rfl 23 _ qp4 _ Tryd.underlying23 rfl (by kernel_rfl) rfl ?_))
      refine (HB.out u4).mono ?_
      rintro e u5 ⟨rfl, b5⟩
      have bo5 := bo4.trans (b5.mono bo4.size)
      have qt5 := qu4.after b5
      generalize u2.heap.size = bt at *
      have ca0 := qt5.cell (i := 0) rfl
      have ca2 := qt5.cell (i := 2) rfl
      clear hx hbl hlm hlm' hi0 hgeq qp qp4 bo bo4 b5 gu3 gu4 zu3 zu4 qu3 qu4 HRT HB
      rcases hc.out with rfl | rfl | rfl | rfl | rfl
      · have HV := Lib.hid (show readsT (T : Int) ⟨1, rd, ta, tb, up⟩ = [⟨0, 0, ta⟩] from if_pos rfl)
        go_wp2_with (first
          | (refine wpList_fld0 (w := u5) rfl rfl rfl Tryd.underlying34 rfl (by kernel_rfl) ?_)
          | (refine wpList_build_blk rfl 42 #[_, _] rfl #[.int .i64 0, .int .i64 0, .int .i64 ta] (by kernel_rfl) ?_)
          | (refine wpList_build_lst (k := kS) (w := u5) rfl 47 42 1 _ rfl Tryd.underlying47 _ 24 info_spot rfl [⟨0, 0, ta⟩] rfl (by kernel_rfl) (by omega) (by decide) ?_; intro u6 qu6 gu6 zu6))
        go_ret
        exact ⟨_, _, _, rfl, by rw [HV.out]; exact Lib.hid rfl, by rw [HV.out]; exact own_lst qu6 bo5.size rfl (by omega), bo5.grown gu6 bo5.size (by simp)⟩
      · have HV := Lib.hid (show readsT (T : Int) ⟨2, rd, ta, tb, up⟩ = [] from rfl)
        go_wp2_with (first
          | (refine wpList_fld0 (w := u5) rfl rfl rfl Tryd.underlying34 rfl (by kernel_rfl) ?_))
        go_ret
        exact ⟨_, _, _, rfl, by rw [HV.out]; exact Lib.hid rfl, by rw [HV.out]; exact OwnL.nil _ _ _ _, bo5⟩
      · have HV := Lib.hid (show readsT (T : Int) ⟨3, rd, ta, tb, up⟩ = [behP 1 2 (rd - 1) ta, behP 1 2 (rd - 1) tb] from rfl)
        go_wp2_with (first
          | (refine wpList_fld0 (w := u5) rfl rfl rfl Tryd.underlying34 rfl (by kernel_rfl) ?_))
        refine wp_region_held (S := fun W => Below u5.heap.size u5 W) (by kernel_rfl) ?_
        change wpAnyH _ _ _ _ _ _ _ _ u5.drew
        have c0_0 := (Below.refl u5.heap.size u5).drew
        refine Held.tk (v := .pointer (some ⟨bt, 1, none⟩)) 0 (some 39) rfl (Held.y_field (k := 1) (s := 0) rfl rfl Tryd.underlying34 rfl (by kernel_rfl) rfl) c0_0 ?_
        simp only [Act.put, Z1, Z2, Z3]
        refine Held.tk (v := .int .i64 rd) 1 (some 40) rfl (Held.y_load rfl rfl (by kernel_rfl) (fun W hW => (qt5.after hW).cell rfl)) c0_0 ?_
        simp only [Act.put, Z1, Z2, Z3]
        refine Held.tk (v := .int .i64 ((rd - 1))) 2 (some 41) rfl (Held.y_int rfl rfl rfl (Held.run_sub 3 .i64 (HS.out))) c0_0 ?_
        simp only [Act.put, Z1, Z2, Z3]
        refine Held.tk (v := .pointer (some ⟨bt, 2, none⟩)) 3 (some 42) rfl (Held.y_field (k := 2) (s := 0) rfl rfl Tryd.underlying34 rfl (by kernel_rfl) rfl) c0_0 ?_
        simp only [Act.put, Z1, Z2, Z3]
        refine Held.tk (v := .int .i64 ta) 4 (some 43) rfl (Held.y_load rfl rfl (by kernel_rfl) (fun W hW => (qt5.after hW).cell rfl)) c0_0 ?_
        simp only [Act.put, Z1, Z2, Z3]
        refine Held.tk (v := .pointer (some ⟨bt, 1, none⟩)) 6 (some 45) rfl (Held.y_field (k := 1) (s := 0) rfl rfl Tryd.underlying34 rfl (by kernel_rfl) rfl) c0_0 ?_
        simp only [Act.put, Z1, Z2, Z3]
        refine Held.tk (v := .int .i64 rd) 7 (some 46) rfl (Held.y_load rfl rfl (by kernel_rfl) (fun W hW => (qt5.after hW).cell rfl)) c0_0 ?_
        simp only [Act.put, Z1, Z2, Z3]
        refine Held.tk (v := .int .i64 ((rd - 1))) 8 (some 47) rfl (Held.y_int rfl rfl rfl (Held.run_sub 3 .i64 (HS.out))) c0_0 ?_
        simp only [Act.put, Z1, Z2, Z3]
        refine Held.tk (v := .pointer (some ⟨bt, 3, none⟩)) 9 (some 48) rfl (Held.y_field (k := 3) (s := 0) rfl rfl Tryd.underlying34 rfl (by kernel_rfl) rfl) c0_0 ?_
        simp only [Act.put, Z1, Z2, Z3]
        refine Held.tk (v := .int .i64 tb) 10 (some 49) rfl (Held.y_load rfl rfl (by kernel_rfl) (fun W hW => (qt5.after hW).cell rfl)) c0_0 ?_
        simp only [Act.put, Z1, Z2, Z3]
        refine Held.one 5 (by kernel_rfl) ?_
        refine Held.op_call 5 (some 44) 43 #[.int .i64 1, .int .i64 2, .int .i64 ((rd - 1)), .int .i64 ta] rfl rfl rfl rfl (enters_of Tryd.func43 (by kernel_rfl) rfl) (by simp [Act.eval])
          (rbehind_any 1 2 (rd - 1) ta _) ?_
        rintro e w1 ⟨rfl, b1⟩
        have c0_1 := c0_0.trans (b1.mono c0_0.size)
        refine ⟨_, rfl, c0_1, ?_⟩
        simp only [Act.put, Z1, Z2, Z3]
        refine Held.one 11 (by kernel_rfl) ?_
        refine Held.op_call 11 (some 50) 43 #[.int .i64 1, .int .i64 2, .int .i64 ((rd - 1)), .int .i64 tb] rfl rfl rfl rfl (enters_of Tryd.func43 (by kernel_rfl) rfl) (by simp [Act.eval])
          (rbehind_any 1 2 (rd - 1) tb _) ?_
        rintro e w2 ⟨rfl, b2⟩
        have c0_2 := c0_1.trans (b2.mono c0_1.size)
        refine ⟨_, rfl, c0_2, ?_⟩
        simp only [Act.put, Z1, Z2, Z3]
        refine Held.one 12 (by kernel_rfl) ?_
        refine op_build_lst (k := kS) 12 (some 51) 47 42 2 _ 24 [behP 1 2 (rd - 1) ta, behP 1 2 (rd - 1) tb] rfl rfl rfl rfl Tryd.underlying47 info_spot rfl rfl (by simp [Act.eval, kS, Sp.cells, spV]) (by omega) (by decide) ?_
        intro gl w3 ql b3 hgl
        have c0_3 := c0_2.trans (b3.mono c0_2.size)
        refine ⟨c0_3, ?_⟩
        simp only [Act.put, Z1, Z2, Z3]
        refine Held.tk (v := .slice (some ⟨gl, 0, none⟩) 2 2) 13 (some 4) rfl (Held.y_assign rfl rfl) c0_3 ?_
        simp only [Act.put, Z1, Z2, Z3]
        refine wpAnyH_done (by kernel_rfl) ?_ _
        have bz := bo5.trans (c0_3.mono bo5.size)
        have hgl2 := Nat.le_trans (Nat.le_trans bo5.size c0_2.size) hgl.out
        go_wp2_with fail
        go_ret
        exact ⟨_, _, _, rfl, by rw [HV.out]; exact Lib.hid rfl, by rw [HV.out]; exact own_lst ql hgl2 rfl (by omega), bz⟩
      · have hw1 : ∀ s ∈ [behP 1 2 (T : Int) ta], s.wf := fun s hs => hwf.out s (by unfold readsT; rw [if_neg (by simp), if_neg (by simp), if_pos rfl]; rw [List.mem_singleton] at hs; subst hs; exact List.mem_cons_self)
        by_cases hpos : (0 : Int) < ta
        · have HV := Lib.hid (show readsT (T : Int) ⟨4, rd, ta, tb, up⟩ = [behP 1 2 (T : Int) ta] ++ [⟨4, 0, ta - 1⟩] by unfold readsT; rw [if_neg (by simp), if_neg (by simp), if_pos rfl, if_pos hpos]; rfl)
          have hsub : IntKind.i64.wrap (ta - 1) = ta - 1 := by rw [IntKind.wrap_i64]; omega
          have wf4 : ∀ s ∈ [(⟨4, 0, ta - 1⟩ : Sp)], s.wf := fun s hs => by rw [List.mem_singleton] at hs; subst hs; exact sp_mk (by decide) (by decide) (lit_wf (by omega) (by omega))
          go_wp2_with (first
            | (refine wpList_fld0 (w := u5) rfl rfl rfl Tryd.underlying34 rfl (by kernel_rfl) ?_))
          refine wp_region_held (S := fun W => Below u5.heap.size u5 W) (by kernel_rfl) ?_
          change wpAnyH _ _ _ _ _ _ _ _ u5.drew
          have c0_0 := (Below.refl u5.heap.size u5).drew
          refine Held.tk (v := .int .i64 (M : Int)) 0 (some 54) rfl (Held.y_move rfl rfl) c0_0 ?_
          simp only [Act.put, Z1, Z2, Z3]
          refine Held.tk (v := .pointer (some ⟨bt, 2, none⟩)) 2 (some 56) rfl (Held.y_field (k := 2) (s := 0) rfl rfl Tryd.underlying34 rfl (by kernel_rfl) rfl) c0_0 ?_
          simp only [Act.put, Z1, Z2, Z3]
          refine Held.tk (v := .int .i64 ta) 3 (some 57) rfl (Held.y_load rfl rfl (by kernel_rfl) (fun W hW => (qt5.after hW).cell rfl)) c0_0 ?_
          simp only [Act.put, Z1, Z2, Z3]
          refine Held.one 1 (by kernel_rfl) ?_
          refine Held.op_call 1 (some 55) 30 #[.int .i64 (M : Int)] rfl rfl rfl rfl (enters_of Tryd.func30 (by kernel_rfl) rfl) (by simp [Act.eval])
            (HRN.out _) ?_
          rintro e w1 ⟨rfl, b1⟩
          have c0_1 := c0_0.trans (b1.mono c0_0.size)
          refine ⟨_, rfl, c0_1, ?_⟩
          simp only [Act.put, Z1, Z2, Z3]
          refine Held.one 4 (by kernel_rfl) ?_
          refine Held.op_call 4 (some 58) 43 #[.int .i64 1, .int .i64 2, .int .i64 (T : Int), .int .i64 ta] rfl rfl rfl rfl (enters_of Tryd.func43 (by kernel_rfl) rfl) (by simp [Act.eval])
            (rbehind_any 1 2 (T : Int) ta _) ?_
          rintro e w2 ⟨rfl, b2⟩
          have c0_2 := c0_1.trans (b2.mono c0_1.size)
          refine ⟨_, rfl, c0_2, ?_⟩
          simp only [Act.put, Z1, Z2, Z3]
          refine Held.one 5 (by kernel_rfl) ?_
          refine op_build_lst (k := kS) 5 (some 59) 47 42 1 _ 24 [behP 1 2 (T : Int) ta] rfl rfl rfl rfl Tryd.underlying47 info_spot rfl rfl (by simp [Act.eval, kS, Sp.cells, spV]) (by omega) (by decide) ?_
          intro gl w3 ql b3 hgl
          have c0_3 := c0_2.trans (b3.mono c0_2.size)
          refine ⟨c0_3, ?_⟩
          simp only [Act.put, Z1, Z2, Z3]
          refine Held.tk (v := .slice (some ⟨gl, 0, none⟩) 1 1) 6 (some 9) rfl (Held.y_assign rfl rfl) c0_3 ?_
          simp only [Act.put, Z1, Z2, Z3]
          refine wpAnyH_done (by kernel_rfl) ?_ _
          have bz := bo5.trans (c0_3.mono bo5.size)
          have q9 := qt5.after c0_3
          have hgl2 := Nat.le_trans (Nat.le_trans bo5.size c0_2.size) hgl.out
          have ca9 := q9.cell (i := 2) rfl
          have o9 : OwnL kS 42 w3 w.heap.size (.slice (some ⟨gl, 0, none⟩) 1 1) [behP 1 2 (T : Int) ta] := own_lst ql hgl2 rfl (by omega)
          have l9 := q9.lt
          have hw9 := bz.size
          clear ca0 ca2
          go_wp2_with (first
            | (refine wpList_fld0 (w := w3) rfl rfl rfl Tryd.underlying34 rfl (by kernel_rfl) ?_)
            | (refine wpList_build_blk rfl 42 #[_, _] rfl #[.int .i64 4, .int .i64 0, .int .i64 (ta - 1)] (by kernel_rfl) ?_)
            | (refine wpList_build_lst (k := kS) (w := w3) rfl 47 42 1 _ rfl Tryd.underlying47 _ 24 info_spot rfl [⟨4, 0, ta - 1⟩] rfl (by kernel_rfl) (by omega) (by decide) ?_; intro u7 qu7 gu7 zu7; have o7 := o9.kept gu7 (.inr (fun e => by cases e)); have l7 : Lst kS u7 u7.heap.size (some ⟨w3.heap.size, 0, none⟩) 1 [⟨4, 0, ta - 1⟩] := lst_whole qu7 rfl wf4)
            | (at_builtin; refine wpList_append_lst (k := kS) (w := u7) rfl _ _ 47 42 rfl Tryd.underlying47 _ 24 info_spot rfl w.heap.size u7.heap.size w3.heap.size 0 1 1 (.slice (some ⟨gl, 0, none⟩) 1 1) [behP 1 2 (T : Int) ta] [⟨4, 0, ta - 1⟩] rfl rfl o7 l7 (by simp) (by omega) (by have := gu7.size; omega) ?_; intro v8 u8 o8 g8 n8))
          obtain ⟨A8, c8, rfl, _, _⟩ := o8.form
          go_ret
          exact ⟨_, _, _, rfl, by rw [HV.out]; exact Lib.hid rfl, by rw [HV.out]; exact o8, (bz.grown gu7 hw9 (by simp)).grown g8 (by have := gu7.size; omega) (fun r e => (o7.lt r e).1)⟩
        · have HV := Lib.hid (show readsT (T : Int) ⟨4, rd, ta, tb, up⟩ = [behP 1 2 (T : Int) ta] by unfold readsT; rw [if_neg (by simp), if_neg (by simp), if_pos rfl, if_neg hpos])
          go_wp2_with (first
            | (refine wpList_fld0 (w := u5) rfl rfl rfl Tryd.underlying34 rfl (by kernel_rfl) ?_))
          refine wp_region_held (S := fun W => Below u5.heap.size u5 W) (by kernel_rfl) ?_
          change wpAnyH _ _ _ _ _ _ _ _ u5.drew
          have c0_0 := (Below.refl u5.heap.size u5).drew
          refine Held.tk (v := .int .i64 (M : Int)) 0 (some 54) rfl (Held.y_move rfl rfl) c0_0 ?_
          simp only [Act.put, Z1, Z2, Z3]
          refine Held.tk (v := .pointer (some ⟨bt, 2, none⟩)) 2 (some 56) rfl (Held.y_field (k := 2) (s := 0) rfl rfl Tryd.underlying34 rfl (by kernel_rfl) rfl) c0_0 ?_
          simp only [Act.put, Z1, Z2, Z3]
          refine Held.tk (v := .int .i64 ta) 3 (some 57) rfl (Held.y_load rfl rfl (by kernel_rfl) (fun W hW => (qt5.after hW).cell rfl)) c0_0 ?_
          simp only [Act.put, Z1, Z2, Z3]
          refine Held.one 1 (by kernel_rfl) ?_
          refine Held.op_call 1 (some 55) 30 #[.int .i64 (M : Int)] rfl rfl rfl rfl (enters_of Tryd.func30 (by kernel_rfl) rfl) (by simp [Act.eval])
            (HRN.out _) ?_
          rintro e w1 ⟨rfl, b1⟩
          have c0_1 := c0_0.trans (b1.mono c0_0.size)
          refine ⟨_, rfl, c0_1, ?_⟩
          simp only [Act.put, Z1, Z2, Z3]
          refine Held.one 4 (by kernel_rfl) ?_
          refine Held.op_call 4 (some 58) 43 #[.int .i64 1, .int .i64 2, .int .i64 (T : Int), .int .i64 ta] rfl rfl rfl rfl (enters_of Tryd.func43 (by kernel_rfl) rfl) (by simp [Act.eval])
            (rbehind_any 1 2 (T : Int) ta _) ?_
          rintro e w2 ⟨rfl, b2⟩
          have c0_2 := c0_1.trans (b2.mono c0_1.size)
          refine ⟨_, rfl, c0_2, ?_⟩
          simp only [Act.put, Z1, Z2, Z3]
          refine Held.one 5 (by kernel_rfl) ?_
          refine op_build_lst (k := kS) 5 (some 59) 47 42 1 _ 24 [behP 1 2 (T : Int) ta] rfl rfl rfl rfl Tryd.underlying47 info_spot rfl rfl (by simp [Act.eval, kS, Sp.cells, spV]) (by omega) (by decide) ?_
          intro gl w3 ql b3 hgl
          have c0_3 := c0_2.trans (b3.mono c0_2.size)
          refine ⟨c0_3, ?_⟩
          simp only [Act.put, Z1, Z2, Z3]
          refine Held.tk (v := .slice (some ⟨gl, 0, none⟩) 1 1) 6 (some 9) rfl (Held.y_assign rfl rfl) c0_3 ?_
          simp only [Act.put, Z1, Z2, Z3]
          refine wpAnyH_done (by kernel_rfl) ?_ _
          have bz := bo5.trans (c0_3.mono bo5.size)
          have q9 := qt5.after c0_3
          have hgl2 := Nat.le_trans (Nat.le_trans bo5.size c0_2.size) hgl.out
          have ca9 := q9.cell (i := 2) rfl
          have o9 : OwnL kS 42 w3 w.heap.size (.slice (some ⟨gl, 0, none⟩) 1 1) [behP 1 2 (T : Int) ta] := own_lst ql hgl2 rfl (by omega)
          clear ca0 ca2
          go_wp2_with (first
            | (refine wpList_fld0 (w := w3) rfl rfl rfl Tryd.underlying34 rfl (by kernel_rfl) ?_))
          go_ret
          exact ⟨_, _, _, rfl, by rw [HV.out]; exact Lib.hid rfl, by rw [HV.out]; exact o9, bz⟩
      · have HV := Lib.hid (show readsT (T : Int) ⟨5, rd, ta, tb, up⟩ = [behP 3 5 (rd - 1) ta, behP 3 5 (rd - 1) tb] from rfl)
        go_wp2_with (first
          | (refine wpList_fld0 (w := u5) rfl rfl rfl Tryd.underlying34 rfl (by kernel_rfl) ?_))
        refine wp_region_held (S := fun W => Below u5.heap.size u5 W) (by kernel_rfl) ?_
        change wpAnyH _ _ _ _ _ _ _ _ u5.drew
        have c0_0 := (Below.refl u5.heap.size u5).drew
        refine Held.tk (v := .pointer (some ⟨bt, 1, none⟩)) 0 (some 73) rfl (Held.y_field (k := 1) (s := 0) rfl rfl Tryd.underlying34 rfl (by kernel_rfl) rfl) c0_0 ?_
        simp only [Act.put, Z1, Z2, Z3]
        refine Held.tk (v := .int .i64 rd) 1 (some 74) rfl (Held.y_load rfl rfl (by kernel_rfl) (fun W hW => (qt5.after hW).cell rfl)) c0_0 ?_
        simp only [Act.put, Z1, Z2, Z3]
        refine Held.tk (v := .int .i64 ((rd - 1))) 2 (some 75) rfl (Held.y_int rfl rfl rfl (Held.run_sub 3 .i64 (HS.out))) c0_0 ?_
        simp only [Act.put, Z1, Z2, Z3]
        refine Held.tk (v := .pointer (some ⟨bt, 2, none⟩)) 3 (some 76) rfl (Held.y_field (k := 2) (s := 0) rfl rfl Tryd.underlying34 rfl (by kernel_rfl) rfl) c0_0 ?_
        simp only [Act.put, Z1, Z2, Z3]
        refine Held.tk (v := .int .i64 ta) 4 (some 77) rfl (Held.y_load rfl rfl (by kernel_rfl) (fun W hW => (qt5.after hW).cell rfl)) c0_0 ?_
        simp only [Act.put, Z1, Z2, Z3]
        refine Held.tk (v := .pointer (some ⟨bt, 1, none⟩)) 6 (some 79) rfl (Held.y_field (k := 1) (s := 0) rfl rfl Tryd.underlying34 rfl (by kernel_rfl) rfl) c0_0 ?_
        simp only [Act.put, Z1, Z2, Z3]
        refine Held.tk (v := .int .i64 rd) 7 (some 80) rfl (Held.y_load rfl rfl (by kernel_rfl) (fun W hW => (qt5.after hW).cell rfl)) c0_0 ?_
        simp only [Act.put, Z1, Z2, Z3]
        refine Held.tk (v := .int .i64 ((rd - 1))) 8 (some 81) rfl (Held.y_int rfl rfl rfl (Held.run_sub 3 .i64 (HS.out))) c0_0 ?_
        simp only [Act.put, Z1, Z2, Z3]
        refine Held.tk (v := .pointer (some ⟨bt, 3, none⟩)) 9 (some 82) rfl (Held.y_field (k := 3) (s := 0) rfl rfl Tryd.underlying34 rfl (by kernel_rfl) rfl) c0_0 ?_
        simp only [Act.put, Z1, Z2, Z3]
        refine Held.tk (v := .int .i64 tb) 10 (some 83) rfl (Held.y_load rfl rfl (by kernel_rfl) (fun W hW => (qt5.after hW).cell rfl)) c0_0 ?_
        simp only [Act.put, Z1, Z2, Z3]
        refine Held.one 5 (by kernel_rfl) ?_
        refine Held.op_call 5 (some 78) 43 #[.int .i64 3, .int .i64 5, .int .i64 ((rd - 1)), .int .i64 ta] rfl rfl rfl rfl (enters_of Tryd.func43 (by kernel_rfl) rfl) (by simp [Act.eval])
          (rbehind_any 3 5 (rd - 1) ta _) ?_
        rintro e w1 ⟨rfl, b1⟩
        have c0_1 := c0_0.trans (b1.mono c0_0.size)
        refine ⟨_, rfl, c0_1, ?_⟩
        simp only [Act.put, Z1, Z2, Z3]
        refine Held.one 11 (by kernel_rfl) ?_
        refine Held.op_call 11 (some 84) 43 #[.int .i64 3, .int .i64 5, .int .i64 ((rd - 1)), .int .i64 tb] rfl rfl rfl rfl (enters_of Tryd.func43 (by kernel_rfl) rfl) (by simp [Act.eval])
          (rbehind_any 3 5 (rd - 1) tb _) ?_
        rintro e w2 ⟨rfl, b2⟩
        have c0_2 := c0_1.trans (b2.mono c0_1.size)
        refine ⟨_, rfl, c0_2, ?_⟩
        simp only [Act.put, Z1, Z2, Z3]
        refine Held.one 12 (by kernel_rfl) ?_
        refine op_build_lst (k := kS) 12 (some 85) 47 42 2 _ 24 [behP 3 5 (rd - 1) ta, behP 3 5 (rd - 1) tb] rfl rfl rfl rfl Tryd.underlying47 info_spot rfl rfl (by simp [Act.eval, kS, Sp.cells, spV]) (by omega) (by decide) ?_
        intro gl w3 ql b3 hgl
        have c0_3 := c0_2.trans (b3.mono c0_2.size)
        refine ⟨c0_3, ?_⟩
        simp only [Act.put, Z1, Z2, Z3]
        refine Held.tk (v := .slice (some ⟨gl, 0, none⟩) 2 2) 13 (some 4) rfl (Held.y_assign rfl rfl) c0_3 ?_
        simp only [Act.put, Z1, Z2, Z3]
        refine wpAnyH_done (by kernel_rfl) ?_ _
        have bz := bo5.trans (c0_3.mono bo5.size)
        have hgl2 := Nat.le_trans (Nat.le_trans bo5.size c0_2.size) hgl.out
        go_wp2_with fail
        go_ret
        exact ⟨_, _, _, rfl, by rw [HV.out]; exact Lib.hid rfl, by rw [HV.out]; exact own_lst ql hgl2 rfl (by omega), bz⟩
    · have HE := Lib.hid (taskAt_ge (l := l) hn (by omega))
      rw [HE.out]
      go_enter Tryd.func19, Tryd.ntmps19
      go_wp2_with (first
        | (refine wpList_box_blk (w := w) rfl 23 _ rfl _ rfl ?_; intro u1 qu1 gu1 zu1; have b1 : Below w.heap.size w u1 := (Below.refl _ w).grown gu1 (Nat.le_refl _) (by simp))
        | (refine wpList_load_blk (w := u1) rfl 23 _ rfl (w.heap.size) 4 rfl 23 _ qu1 _ Tryd.underlying23 rfl (by kernel_rfl) rfl ?_))
      refine (HRT.out u1).mono ?_
      rintro e u2 ⟨A0, N, c0, rfl, hN, o2, b2⟩
      have bo := b1.trans (b2.mono b1.size)
      have hN' := hN.out
      have hgeq : decide ((N : Int) ≤ (i : Int)) = true := decide_eq_true (by omega)
      go_wp2_with (first
        | (refine Held.wpList_run (w := u2) rfl (v := .bool true) (Sp.y_geq (S := fun _ => True) rfl rfl rfl hgeq _ trivial) ?_))
      go_ret
      exact ⟨_, _, _, rfl, Lib.hid rfl, OwnL.nil _ _ _ _, bo⟩
end Go.Proofs.YtipmfficjomcoaaDoor.Sh
