/-
  The law ShapeOrder of package dominolaw17 returns true for all public numbers: each spot is written by one task alone, and what a task reads is the input's, or made by tasks of lesser numbers.
-/
import Derived.Test.YtipmfficjomcoaaDoorRows
import Derived.Test.YtipmfficjomcoaaDoorCards
import Derived.Test.YtipmfficjomcoaaDoorTie
import Derived.SevenTiedAt
import Derived.WalkKit
import Derived.ProofKit
import Derived.OpenShut
import Derived.ShutString
import Derived.ChangeOld
import Derived.Below
import Derived.LaidMore
import Derived.Stop.Joined
import Derived.Test.YtipmfficjomcoaaDoorB12
import Derived.Test.YtipmfficjomcoaaDoorB10
namespace Go.Proofs.YtipmfficjomcoaaDoor.shapeOrder
open Go.ChangeShapes Go.WideShapes Go.ChangeAt Go.RowKit
open Go.ChangeMaps (open_string shut_string)
open Go.Shelf Go.Proofs.YtipmfficjomcoaaDoor Mem Held Go.Proofs.YtipmfficjomcoaaDoor.Range Rs Sl Sh
theorem own : ownKnob Tryd.prog.godebug = none := by kernel_rfl
theorem laidOut : laidOutB Tryd.prog = true := by kernel_rfl
def laidList : List (String × DataW Unit) := [("math/bits.deBruijn32tab", Rows.laid_math_bits_deBruijn32tab), ("math/bits.deBruijn64tab", Rows.laid_math_bits_deBruijn64tab)]
attribute [local irreducible] wpList wpListIn Calls
attribute [local go_sem] Oper.semAt_some
theorem wf_says {z : Int} (h : (Lit.int .i64 z).wf = true) : -9223372036854775808 ≤ z ∧ z ≤ 9223372036854775807 := by
  simp [Lit.wf, IntKind.min, IntKind.max, IntKind.signed, IntKind.bits] at h
  omega
set_option maxRecDepth 100000 in
set_option maxHeartbeats 16000000 in
theorem start (r k b wk : Int) (w : World) (hk0 : -9223372036854775808 ≤ k) (hk1 : k ≤ 9223372036854775807) (hT : Bi.TzT w) :
    Calls Tryd.prog 5 #[.agg #[.int .i64 r, .int .i64 k, .int .i64 b, .int .i64 wk]] w fun e w' => e = .returned (.bool true) ∧ Below w.heap.size w w' := by
  have hTw := hT.lt
  go_enter Tryd.func5, Tryd.ntmps5
  go_wp2_with (first
    | (refine wpList_box_blk (w := w) rfl 23 _ rfl _ rfl ?_; intro u1 qu1 gu1 zu1; have bo1 : Below w.heap.size w u1 := (Below.refl _ w).grown gu1 (Nat.le_refl _) (by simp))
    | (refine wpList_load_blk (w := u1) rfl 23 _ rfl (w.heap.size) 4 rfl 23 _ qu1 _ Tryd.underlying23 rfl (by kernel_rfl) rfl ?_))
  refine (few_any r k b wk u1).mono ?_
  rintro e w2 ⟨x, rfl, hF, b2⟩
  have q2 := qu1.after b2
  have bo2 := bo1.trans (b2.mono bo1.size)
  have hs2 := bo2.size
  have hO := ord_few hF hk0 hk1
  clear hF b2 qu1 gu1 zu1 bo1
  go_wp2_with (first
    | (refine wpList_store_blk (w := w2) rfl 23 _ _ rfl (w.heap.size) 4 rfl 23 _ #[.int .i64 x, .int .i64 k, .int .i64 b, .int .i64 wk] rfl q2 (by kernel_rfl) rfl rfl (by kernel_rfl) ?_; intro u3 qu3 gu3 zu3; have bo3 := bo2.grown gu3 hs2 (fun r e => by cases e; exact Nat.le_refl _))
    | (refine wpList_load_blk (w := u3) rfl 23 _ rfl (w.heap.size) 4 rfl 23 _ qu3 _ Tryd.underlying23 rfl (by kernel_rfl) rfl ?_))
  have h := job_of (r := x) (b := b) (wk := wk) hk0 hk1
  have HN := fun W hT => count_any x k b wk hk0 hk1 W hT
  have HL := Lib.hid (fun W hT => last_of x k b wk hk0 hk1 W hT)
  have HW := Lib.hid (fun n h0 h1 W hT => writes_of x k b wk n hk0 hk1 h0 h1 W hT)
  have HR := Lib.hid (fun n h0 h1 W hT => reads_of x k b wk n hk0 hk1 h0 h1 W hT)
  have HM := Lib.hid (fun ph rd ad W hT => makes_any x k b wk ph rd ad hk0 hk1 W hT)
  have HY := Lib.hid (fun B Ad nd cd bs n h0 h1 W hT hd hB => ready_of B Ad nd cd bs x k b wk n hk0 hk1 h0 h1 W hT hd hB)
  have HKR := fun (i : Nat) (t : Tk) (ht : (tasksT (inN x k b wk) (mpN x k b wk) (mN x k b wk) (tN x k b wk))[i]? = some t) => task_right ht
  refine (HN u3 (hT.below bo3 hTw)).mono ?_
  generalize inN x k b wk = I at *
  generalize mpN x k b wk = mp at *
  generalize mN x k b wk = M at *
  generalize tN x k b wk = T at *
  have HB := Lib.hid (fun (i : Nat) (t : Tk) (ht : (tasksT I mp M T)[i]? = some t) => tasks_bi h ht)
  have ht15 := h.t15
  have h32 := h.m32
  have HM32 := Lib.hid h32
  have HLW := Lib.hid (last_wf (M := M) (show (0 : Int) ≤ (T : Int) by omega) (by omega) h32)
  generalize tasksT I mp M T = l at *
  have HWW := Lib.hid (fun (i : Nat) (t : Tk) (ht : l[i]? = some t) => show (∀ s ∈ writesT k t, s.wf) ∧ (writesT k t).length ≤ 4 from by
    have hr := HKR i t ht
    exact ⟨writes_wf (HB.out i t ht) (fun _ => ⟨by omega, by omega⟩), writes_length (fun _ => ⟨by omega, by omega⟩)⟩)
  have HRW := Lib.hid (fun (i : Nat) (t : Tk) (ht : l[i]? = some t) => show (∀ s ∈ readsT (T : Int) t, s.wf) ∧ (readsT (T : Int) t).length ≤ 2 from ⟨reads_wf (HB.out i t ht) (by omega) (by omega), reads_length _ _⟩)
  have HAW := Lib.hid (show ∀ (n : Nat), ∀ s ∈ (l.take n).flatMap (writesT k), s.wf from fun n s hs => by
    obtain ⟨u, hu, hs⟩ := List.mem_flatMap.1 hs
    obtain ⟨j, hj, e⟩ := List.getElem_of_mem (List.mem_of_mem_take hu)
    exact (HWW.out j u (by rw [List.getElem?_eq_getElem hj, e])).1 s hs)
  have HAL := Lib.hid (show ∀ (n : Nat), n ≤ l.length → ((l.take n).flatMap (writesT k)).length ≤ 4 * n from fun n => by
    induction n with
    | zero => intro _; simp
    | succ n ih =>
      intro hn
      have hq : l[n]? = some l[n] := List.getElem?_eq_getElem (by omega)
      rw [← flat_next hq, List.length_append]
      have := ih (by omega)
      have := (HWW.out n _ hq).2
      omega)
  have hN5 := hO.len
  have HO := Lib.hid hO
  rintro e w4 ⟨rfl, b4⟩
  have q4 := qu3.after b4
  have bo4 := bo3.trans (b4.mono bo3.size)
  obtain ⟨N, hN⟩ : ∃ N : Nat, l.length = N := ⟨_, rfl⟩
  have HNN := Lib.hid hN
  rw [hN] at hN5 ⊢
  have hs4 := bo4.size
  clear h hO HKR HB HN hN b4 qu3 gu3 zu3 bo3 q2 bo2 ht15 h32
  have hd5 : ¬ (500 : Int) < (N : Int) := by omega
  go_wp2_with fail
  refine (awake17_any _ (hT.below bo4 hTw)).mono ?_
  rintro e w5 ⟨rfl, b5⟩
  have q5 := q4.after b5
  have bo5 := bo4.trans (b5.mono hs4)
  have hs5 := bo5.size
  clear q4 bo4 b5
  go_wp2_with (first
    | (refine wpList_make_bools w5 rfl _ _ 43 rfl 4 Tryd.underlying43 (by kernel_rfl) N _ rfl rfl rfl (by omega) ?_; intro w6 qd g6))
  have q6 := q5.grown g6 (by simp)
  have bo6 := bo5.grown g6 hs5 (by simp)
  have hgd : w.heap.size < w5.heap.size := q5.lt
  generalize w5.heap.size = gd at *
  clear g6 bo5 q5 hs5
  have ol := OwnL.nil kS 42 w6 w.heap.size
  go_loopw [4, 6] (fun v i wr => ∃ n : Nat, n ≤ N ∧ i = .int .i64 n ∧ OwnL kS 42 wr w.heap.size v ((l.take n).flatMap (writesT k)) ∧ Blk wr gd 4 (flat Vm.kB (dnB N n)).toArray ∧ Blk wr w.heap.size 23 #[.int .i64 x, .int .i64 k, .int .i64 b, .int .i64 wk] ∧ Below w.heap.size w wr) (fun _ i _ => N - (intOf i).toNat)
  case atStart => exact ⟨0, by omega, rfl, by simpa using ol, qd, q6, bo6⟩
  case round =>
    clear ol qd q6 bo6
    obtain ⟨n, hn, rfl, oa, qd, qp, bw⟩ := hrel
    have hwz := bw.size
    by_cases hlt : n < N
    · have hlt' : (n : Int) < (N : Int) := by omega
      have hn0 : (0 : Int) ≤ (n : Int) := by omega
      have haddn : IntKind.i64.wrap ((n : Int) + 1) = (n : Int) + 1 := by rw [IntKind.wrap_i64]; omega
      obtain ⟨tt, htt⟩ : ∃ tt, l[n]? = some tt := ⟨l[n]'(by have := HNN.out; omega), List.getElem?_eq_getElem _⟩
      have HTT := Lib.hid htt
      have hW := HW.out (n : Int) (by omega) (by omega)
      have hR := HR.out (n : Int) (by omega) (by omega)
      have hY := fun B Ad nd cd bs => HY.out B Ad nd cd bs (n : Int) (by omega) (by omega)
      rw [taskAt_some htt rfl] at hW hR
      have HY' := Lib.hid (fun (W : World) (hTW : Bi.TzT W) (qd : Blk W gd 4 (flat Vm.kB (dnB N n)).toArray) => show Calls Tryd.prog 24 #[.agg #[.int .i64 x, .int .i64 k, .int .i64 b, .int .i64 wk], .slice (some ⟨gd, 0, none⟩) N N, .int .i64 (n : Int)] W fun e w' => e = .returned (.bool true) ∧ Below W.heap.size W w' from by
        have := hY W.heap.size (some ⟨gd, 0, none⟩) N N (dnB N n) W hTW (lstB qd) (Nat.le_refl _)
        have e := ready_dn HO.out HTT.out
        rw [taskAt_some htt rfl] at this
        rw [HNN.out] at e
        rwa [e] at this)
      have HR' := Lib.hid hR
      clear hY hR htt
      obtain ⟨A4, n4, c4, rfl, HN4, hnc4, hcm4⟩ := oa.form2
      go_wp2_with (first
        | (refine wpList_load_blk (w := wr) rfl 23 _ rfl (w.heap.size) 4 rfl 23 _ qp _ Tryd.underlying23 rfl (by kernel_rfl) rfl ?_))
      refine (hW wr (hT.below bw hTw)).mono ?_
      rintro e w7 ⟨A1, m1, c1, rfl, hm1, o1, b7⟩
      clear hW
      have hap : ∀ g, (Value.slice A4 n4 c4).ownBlock = some g → (Value.slice A1 m1 c1).ownBlock ≠ some g := fun g e1 e2 => by
        have h1 := (oa.lt g e1).2
        have h2 := (o1.lt g e2).1
        omega
      have oa := oa.below b7
      have qd := qd.after b7
      have qp := qp.after b7
      have bw := bw.trans (b7.mono hwz)
      have hb7 := bw.size
      have hm4 := (HWW.out n tt HTT.out).2
      have HMW := Lib.hid (HWW.out n tt HTT.out).1
      have hm1' := hm1.out
      change (writesT k tt).length = m1 at hm1'
      rw [hm1'] at hm4
      have HM1 := Lib.hid hm1'
      have o1 : OwnL kS 42 w7 wr.heap.size (.slice A1 m1 c1) (writesT k tt) := o1
      have HAL4 := HAL.out n (by have := HNN.out; omega)
      rw [HN4.out] at HAL4
      have HFR := Lib.hid (fun (m : Nat) (hm : m < m1) => fresh_w HO.out HTT.out (show m < (writesT k tt).length by omega))
      have HMQ := Lib.hid (fun (m : Nat) (hm : m < m1) => show makesT k l ((writesT k tt).getD m S0) = (n : Int) from HO.out.made n tt _ HTT.out (by
        rw [List.getD_eq_getElem?_getD, List.getElem?_eq_getElem (by omega), Option.getD_some]
        exact List.getElem_mem _))
      have HXT := Lib.hid (fun (m : Nat) (hm : m < m1) => show (writesT k tt).take (m + 1) = (writesT k tt).take m ++ [(writesT k tt).getD m S0] from by
        rw [List.take_add_one, List.getD_eq_getElem?_getD, List.getElem?_eq_getElem (show m < (writesT k tt).length by omega)]
        rfl)
      generalize hwr : wr.heap.size = hr7 at *
      clear hm1 hm1' b7 hwr hwz
      go_wp2_with fail
      go_loopw [4, 8] (fun v j wr => ∃ m : Nat, m ≤ m1 ∧ j = .int .i64 m ∧ OwnL kS 42 wr hr7 (.slice A1 m1 c1) (writesT k tt) ∧ (∀ g, v.ownBlock = some g → (Value.slice A1 m1 c1).ownBlock ≠ some g) ∧ OwnL kS 42 wr w.heap.size v ((l.take n).flatMap (writesT k) ++ (writesT k tt).take m) ∧ Blk wr gd 4 (flat Vm.kB (dnB N n)).toArray ∧ Blk wr w.heap.size 23 #[.int .i64 x, .int .i64 k, .int .i64 b, .int .i64 wk] ∧ Below w.heap.size w wr) (fun _ j _ => m1 - (intOf j).toNat)
      case atStart => exact ⟨0, by omega, rfl, o1, hap, by simpa using oa, qd, qp, bw⟩
      case round =>
        clear oa o1 hap qd qp bw
        obtain ⟨m, hm, rfl, o1, hap, oa, qd, qp, bw⟩ := hrel
        have hwi := bw.size
        by_cases hlm : m < m1
        · have hlm' : (m : Int) < (m1 : Int) := by omega
          have hm0 : (0 : Int) ≤ (m : Int) := by omega
          have haddm : IntKind.i64.wrap ((m : Int) + 1) = (m : Int) + 1 := by rw [IntKind.wrap_i64]; omega
          obtain ⟨A4, n4, c4, rfl, HN4, hnc4, hcm4⟩ := oa.form2
          have HFm := HFR.out m hlm
          have HMm := HMQ.out m hlm
          have HXm := Lib.hid (HXT.out m hlm)
          have hl1 := o1.lst HMW.out
          have hwx : ((writesT k tt).getD m S0).wf := hl1.wf_at hlm
          obtain ⟨bl, off, rfl, hbl, hx⟩ := hl1.at_ hlm
          have hx : wr.rangeAt bl (off + m * 3) ((writesT k tt).getD m S0).cells := hx
          have lall : Lst kS wr wr.heap.size A4 n4 ((l.take n).flatMap (writesT k) ++ (writesT k tt).take m) := oa.lst (fun s hs => (List.mem_append.1 hs).elim (fun h => HAW.out n s h) (fun h => HMW.out s (List.mem_of_mem_take h)))
          have hn4 : n4 ≤ 1073741824 := by
            have h1 := HN4.out
            rw [List.length_append] at h1
            have h2 := HAL.out n (by have := HNN.out; omega)
            have h3 := List.length_take_le m (writesT k tt)
            have := HM1.out
            omega
          have hn5 : n4 ≤ 3000 := by
            have h1 := HN4.out
            rw [List.length_append] at h1
            have h2 := HAL.out n (by have := HNN.out; omega)
            have h3 := List.length_take_le m (writesT k tt)
            have := HM1.out
            omega
          generalize (writesT k tt).getD m S0 = sx at hx HFm HMm HXm hwx
          obtain ⟨ph, rd, ad⟩ := sx
          have hx : wr.rangeAt bl (off + m * 3) [.int .i64 ph, .int .i64 rd, .int .i64 ad] := hx
          have HMKX := Lib.hid (fun (W : World) (hT : Bi.TzT W) => by
            have := HM.out ph rd ad W hT
            rwa [HMm] at this)
          have HIN := Lib.hid (show decide ((⟨ph, rd, ad⟩ : Sp) ∈ (l.take n).flatMap (writesT k) ++ (writesT k tt).take m) = false from decide_eq_false HFm)
          have wf1 : ∀ s ∈ [(⟨ph, rd, ad⟩ : Sp)], s.wf := fun s hs => by rw [List.mem_singleton] at hs; subst hs; exact hwx
          obtain ⟨L4, hL4⟩ : ∃ L4, (l.take n).flatMap (writesT k) ++ (writesT k tt).take m = L4 := ⟨_, rfl⟩
          have HL4 := Lib.hid hL4
          rw [hL4] at oa lall HIN HN4
          clear HMm HFm hwx hl1 hL4
          go_wp2_with fail
          refine wp_region_held (S := fun W => Below wr.heap.size wr W) (by kernel_rfl) ?_
          change wpAnyH _ _ _ _ _ _ _ _ wr.drew
          have c0_0 := (Below.refl wr.heap.size wr).drew
          refine Held.tk (v := .slice A4 n4 c4) 0 (some 40) rfl (Held.y_move rfl rfl) c0_0 ?_
          simp only [Act.put, Z1, Z2, Z3]
          refine Held.tk (v := .slice (some ⟨bl, off, none⟩) m1 c1) 1 (some 41) rfl (Held.y_move rfl rfl) c0_0 ?_
          simp only [Act.put, Z1, Z2, Z3]
          refine Held.tk (v := .int .i64 (m : Int)) 2 (some 42) rfl (Held.y_move rfl rfl) c0_0 ?_
          simp only [Act.put, Z1, Z2, Z3]
          refine Held.tk (v := .pointer (some ⟨bl, off + m * 3, none⟩)) 3 (some 43) rfl (Held.y_addr rfl rfl rfl (run_addr_of 47 42 bl off m1 c1 m 3 .i64 Tryd.underlying47 (by kernel_rfl) hlm)) c0_0 ?_
          simp only [Act.put, Z1, Z2, Z3]
          refine Held.tk (v := .agg #[.int .i64 ph, .int .i64 rd, .int .i64 ad]) 4 (some 44) rfl (y_load_range (n := 3) (cs := [.int .i64 ph, .int .i64 rd, .int .i64 ad]) rfl rfl Tryd.underlying42 rfl (by kernel_rfl) rfl (fun W hW => range_below hx hW hbl)) c0_0 ?_
          simp only [Act.put, Z1, Z2, Z3]
          refine Held.one 5 (by kernel_rfl) ?_
          refine Held.op_call 5 (some 45) 28 #[.slice A4 n4 c4, .agg #[.int .i64 ph, .int .i64 rd, .int .i64 ad]] rfl rfl rfl rfl (enters_of Tryd.func28 (by kernel_rfl) rfl) (by simp [Act.eval])
            (by have := inS_any wr.heap.size A4 n4 c4 L4 ⟨ph, rd, ad⟩ _ (lall.below (c0_0)) c0_0.size hn4; rwa [HIN.out] at this) ?_
          rintro e w1 ⟨rfl, b1⟩
          have c0_1 := c0_0.trans (b1.mono c0_0.size)
          refine ⟨_, rfl, c0_1, ?_⟩
          simp only [Act.put, Z1, Z2, Z3]
          refine Held.tk (v := .bool false) 6 (some 46) rfl (Held.y_move rfl rfl) c0_1 ?_
          simp only [Act.put, Z1, Z2, Z3]
          refine Held.tk (v := .agg #[.int .i64 x, .int .i64 k, .int .i64 b, .int .i64 wk]) 7 (some 47) rfl (Held.y_load_blk (n := 4) rfl rfl Tryd.underlying23 rfl (by kernel_rfl) rfl (fun W hW => qp.after hW)) c0_1 ?_
          simp only [Act.put, Z1, Z2, Z3]
          refine Held.tk (v := .slice (some ⟨bl, off, none⟩) m1 c1) 8 (some 48) rfl (Held.y_move rfl rfl) c0_1 ?_
          simp only [Act.put, Z1, Z2, Z3]
          refine Held.tk (v := .int .i64 (m : Int)) 9 (some 49) rfl (Held.y_move rfl rfl) c0_1 ?_
          simp only [Act.put, Z1, Z2, Z3]
          refine Held.tk (v := .pointer (some ⟨bl, off + m * 3, none⟩)) 10 (some 50) rfl (Held.y_addr rfl rfl rfl (run_addr_of 47 42 bl off m1 c1 m 3 .i64 Tryd.underlying47 (by kernel_rfl) hlm)) c0_1 ?_
          simp only [Act.put, Z1, Z2, Z3]
          refine Held.tk (v := .agg #[.int .i64 ph, .int .i64 rd, .int .i64 ad]) 11 (some 51) rfl (y_load_range (n := 3) (cs := [.int .i64 ph, .int .i64 rd, .int .i64 ad]) rfl rfl Tryd.underlying42 rfl (by kernel_rfl) rfl (fun W hW => range_below hx hW hbl)) c0_1 ?_
          simp only [Act.put, Z1, Z2, Z3]
          refine Held.tk (v := .int .i64 (n : Int)) 13 (some 53) rfl (Held.y_move rfl rfl) c0_1 ?_
          simp only [Act.put, Z1, Z2, Z3]
          refine Held.one 12 (by kernel_rfl) ?_
          refine Held.op_call 12 (some 52) 22 #[.agg #[.int .i64 x, .int .i64 k, .int .i64 b, .int .i64 wk], .agg #[.int .i64 ph, .int .i64 rd, .int .i64 ad]] rfl rfl rfl rfl (enters_of Tryd.func22 (by kernel_rfl) rfl) (by simp [Act.eval])
            (HMKX.out _ (hT.below (bw.trans (c0_1.mono hwi)) hTw)) ?_
          rintro e w2 ⟨rfl, b2⟩
          have c0_2 := c0_1.trans (b2.mono c0_1.size)
          refine ⟨_, rfl, c0_2, ?_⟩
          simp only [Act.put, Z1, Z2, Z3]
          refine Held.tk (v := .bool false) 14 (some 54) rfl (Held.y_neI rfl rfl rfl (by simp)) c0_2 ?_
          simp only [Act.put, Z1, Z2, Z3]
          refine Held.tk (v := .bool false) 15 (some 55) rfl (Held.y_pickF rfl rfl rfl) c0_2 ?_
          simp only [Act.put, Z1, Z2, Z3]
          refine wpAnyH_done (by kernel_rfl) ?_ _
          have bz := bw.trans (c0_2.mono hwi)
          have CZ := c0_2
          have oa := oa.below CZ
          have o1 := o1.below CZ
          have qd := qd.after CZ
          have qp := qp.after CZ
          have hx2 := range_below hx CZ hbl
          have hzz := CZ.size
          have hbz := bz.size
          clear hx lall HMKX HIN CZ c0_0 c0_1 c0_2 b1 b2 bw
          go_wp2_with (first
            | (refine wpList_load_mid (w := w2) rfl 42 _ rfl bl (off + m * 3) rfl [.int .i64 ph, .int .i64 rd, .int .i64 ad] _ hx2 Tryd.underlying42 rfl (by kernel_rfl) ?_)
            | (refine wpList_build_lst (k := kS) (w := w2) rfl 47 42 1 _ rfl Tryd.underlying47 _ 24 info_spot rfl [⟨ph, rd, ad⟩] rfl (by kernel_rfl) (by omega) (by decide) ?_; intro u5 qu5 gu5 zu5; have o5 := oa.kept gu5 (by cases (Value.slice A4 n4 c4).ownBlock <;> simp); have l5 : Lst kS u5 u5.heap.size (some ⟨w2.heap.size, 0, none⟩) 1 [⟨ph, rd, ad⟩] := lst_whole qu5 rfl wf1)
            | (at_builtin; refine wpList_append_lst (k := kS) (w := u5) rfl _ _ 47 42 rfl Tryd.underlying47 _ 24 info_spot rfl w.heap.size u5.heap.size w2.heap.size 0 1 1 (.slice A4 n4 c4) _ [⟨ph, rd, ad⟩] rfl rfl o5 l5 (by rw [HN4.out]; omega) (by omega) (by have := gu5.size; omega) ?_; intro v6 u6 o6 g6 n6))
          obtain ⟨A6, n6', c6, rfl, _⟩ := o6.form2
          have o15 := o1.kept gu5 (by cases (Value.slice (some ⟨bl, off, none⟩) m1 c1).ownBlock <;> simp)
          have o16 := o15.kept g6 (by
            cases e : (Value.slice (some ⟨bl, off, none⟩) m1 c1).ownBlock with
            | none => exact .inl rfl
            | some g => exact .inr fun e2 => hap g e2.symm e)
          have hap6 : ∀ g, (Value.slice A6 n6' c6).ownBlock = some g → (Value.slice (some ⟨bl, off, none⟩) m1 c1).ownBlock ≠ some g := fun g e1 e2 => by
            rcases n6 with n6 | n6
            · exact hap g (by rw [← n6]; exact e1) e2
            · rw [n6] at e1
              injection e1 with e1
              have := (o15.lt g e2).2
              omega
          have qp5 := qp.grown gu5 (by simp)
          have qd5 := qd.grown gu5 (by simp)
          go_roundw
          case rel => exact ⟨m + 1, by omega, by go_num, o16, hap6, by rw [HXm.out, ← List.append_assoc, HL4.out]; exact o6, qd5.grown g6 (Ne.symm (o5.ne_blk qd5 (by decide))), qp5.grown g6 (Ne.symm (o5.ne_blk qp5 (by decide))), (bz.grown gu5 hbz (by simp)).grown g6 (by have := gu5.size; omega) (fun r e => (o5.lt r e).1)⟩
          case measure => simp [intOf]; omega
        · obtain rfl : m = m1 := by omega
          have hfn : (l.take n).flatMap (writesT k) ++ (writesT k tt).take m = (l.take (n + 1)).flatMap (writesT k) := by
            rw [show (writesT k tt).take m = writesT k tt from List.take_of_length_le (Nat.le_of_eq HM1.out)]
            exact flat_next HTT.out
          rw [hfn] at oa
          obtain ⟨A4, n4, c4, rfl, HN4, hnc4, hcm4⟩ := oa.form2
          clear o1 hap hfn HFR HMQ HXT HMW HM1
          go_wp2_with (first
            | (refine wpList_load_blk (w := wr) rfl 23 _ rfl (w.heap.size) 4 rfl 23 _ qp _ Tryd.underlying23 rfl (by kernel_rfl) rfl ?_))
          refine (HR'.out wr (hT.below bw hTw)).mono ?_
          rintro e w8 ⟨A2, m2, c2, rfl, hm2, o2, b8⟩
          have oa := oa.below b8
          have qd := qd.after b8
          have qp := qp.after b8
          have bw := bw.trans (b8.mono hwi)
          have hm2' := hm2.out
          change (readsT (T : Int) tt).length = m2 at hm2'
          have hm4 := (HRW.out n tt HTT.out).2
          rw [hm2'] at hm4
          have lr : Lst kS w8 w8.heap.size A2 m2 (readsT (T : Int) tt) := OwnL.lst (xs := readsT (T : Int) tt) o2 (HRW.out n tt HTT.out).1
          have HRQ := Lib.hid (fun (m : Nat) (hm : m < m2) => show makesT k l ((readsT (T : Int) tt).getD m S0) < (n : Int) ∧ (makesT k l ((readsT (T : Int) tt).getD m S0) < 0 → ((readsT (T : Int) tt).getD m S0).ph = 0) from HO.out.rd n tt _ HTT.out (by
            rw [List.getD_eq_getElem?_getD, List.getElem?_eq_getElem (by omega), Option.getD_some]
            exact List.getElem_mem _))
          generalize readsT (T : Int) tt = rs at *
          clear hm2 hm2' o2 b8
          go_wp2_with fail
          have hw8 := bw.size
          have hz8 : w8.heap.size ≤ w8.heap.size := Nat.le_refl _
          go_loopw [10, 11] (fun j u wr => ∃ m : Nat, m ≤ m2 ∧ j = .int .i64 m ∧ Below w8.heap.size w8 wr) (fun j _ _ => m2 - (intOf j).toNat)
          case atStart => exact ⟨0, by omega, rfl, Below.refl _ _⟩
          case round =>
            obtain ⟨m, hm, rfl, b9⟩ := hrel
            have qd := qd.after b9
            have qp := qp.after b9
            have oa := oa.below b9
            have bw := bw.trans (b9.mono hw8)
            have hwi := bw.size
            have hl9 := lr.below b9
            have hsz := b9.size
            by_cases hlm : m < m2
            · have hlm' : (m : Int) < (m2 : Int) := by omega
              have hm0 : (0 : Int) ≤ (m : Int) := by omega
              have haddm : IntKind.i64.wrap ((m : Int) + 1) = (m : Int) + 1 := by rw [IntKind.wrap_i64]; omega
              obtain ⟨hq1, hq2⟩ := HRQ.out m hlm
              have hmle := makesT_le k l (rs.getD m S0)
              obtain ⟨bl, off, rfl, hbl, hx⟩ := hl9.at_ hlm
              have hx : wr.rangeAt bl (off + m * 3) (rs.getD m S0).cells := hx
              generalize rs.getD m S0 = sx at hx hq1 hq2 hmle
              obtain ⟨ph, rd, ad⟩ := sx
              have hx : wr.rangeAt bl (off + m * 3) [.int .i64 ph, .int .i64 rd, .int .i64 ad] := hx
              have HMKX := Lib.hid (fun (W : World) (hT : Bi.TzT W) => HM.out ph rd ad W hT)
              obtain ⟨mk, hmk⟩ : ∃ mk, makesT k l ⟨ph, rd, ad⟩ = mk := ⟨_, rfl⟩
              have hq2 : mk < 0 → ph = 0 := by rw [← hmk]; exact hq2
              have hq1 : mk < (n : Int) := by rw [← hmk]; exact hq1
              rw [hmk] at HMKX
              clear hmk hmle hl9
              have hbl : bl < wr.heap.size := by omega
              go_wp2_with fail
              refine wp_region_held (S := fun W => Below wr.heap.size wr W) (by kernel_rfl) ?_
              change wpAnyH _ _ _ _ _ _ _ _ wr.drew
              have c0_0 := (Below.refl wr.heap.size wr).drew
              refine Held.tk (v := .agg #[.int .i64 x, .int .i64 k, .int .i64 b, .int .i64 wk]) 0 (some 72) rfl (Held.y_load_blk (n := 4) rfl rfl Tryd.underlying23 rfl (by kernel_rfl) rfl (fun W hW => qp.after hW)) c0_0 ?_
              simp only [Act.put, Z1, Z2, Z3]
              refine Held.tk (v := .slice (some ⟨bl, off, none⟩) m2 c2) 1 (some 73) rfl (Held.y_move rfl rfl) c0_0 ?_
              simp only [Act.put, Z1, Z2, Z3]
              refine Held.tk (v := .int .i64 (m : Int)) 2 (some 74) rfl (Held.y_move rfl rfl) c0_0 ?_
              simp only [Act.put, Z1, Z2, Z3]
              refine Held.tk (v := .pointer (some ⟨bl, off + m * 3, none⟩)) 3 (some 75) rfl (Held.y_addr rfl rfl rfl (run_addr_of 47 42 bl off m2 c2 m 3 .i64 Tryd.underlying47 (by kernel_rfl) hlm)) c0_0 ?_
              simp only [Act.put, Z1, Z2, Z3]
              refine Held.tk (v := .agg #[.int .i64 ph, .int .i64 rd, .int .i64 ad]) 4 (some 76) rfl (y_load_range (n := 3) (cs := [.int .i64 ph, .int .i64 rd, .int .i64 ad]) rfl rfl Tryd.underlying42 rfl (by kernel_rfl) rfl (fun W hW => range_below hx hW hbl)) c0_0 ?_
              simp only [Act.put, Z1, Z2, Z3]
              refine Held.one 5 (by kernel_rfl) ?_
              refine Held.op_call 5 (some 77) 22 #[.agg #[.int .i64 x, .int .i64 k, .int .i64 b, .int .i64 wk], .agg #[.int .i64 ph, .int .i64 rd, .int .i64 ad]] rfl rfl rfl rfl (enters_of Tryd.func22 (by kernel_rfl) rfl) (by simp [Act.eval])
                (HMKX.out _ (hT.below (bw.trans (c0_0.mono hwi)) hTw)) ?_
              rintro e w1 ⟨rfl, b1⟩
              have c0_1 := c0_0.trans (b1.mono c0_0.size)
              refine ⟨_, rfl, c0_1, ?_⟩
              simp only [Act.put, Z1, Z2, Z3]
              refine Held.tk (v := .int .i64 mk) 6 (some 11) rfl (Held.y_assign rfl rfl) c0_1 ?_
              simp only [Act.put, Z1, Z2, Z3]
              refine wpAnyH_done (by kernel_rfl) ?_ _
              have bz := bw.trans (c0_1.mono hwi)
              have CZ := c0_1
              have qd := qd.after CZ
              have qp := qp.after CZ
              have oa := oa.below CZ
              have b10 := b9.trans (CZ.mono hsz)
              have hx2 : w1.cell? ⟨bl, off + m * 3, none⟩ = some (.int .i64 ph) := (range_below hx CZ hbl) 0 _ rfl
              clear hx HMKX CZ c0_0 c0_1 b1 b9 bw
              have hdg : decide ((n : Int) ≤ mk) = false := decide_eq_false (by omega)
              by_cases hneg : mk < 0
              · obtain rfl : ph = 0 := hq2 hneg
                go_wp2_with (first
                  | (refine Held.wpList_run (w := w1) rfl (v := .bool false) (Sp.y_geq (S := fun _ => True) rfl rfl rfl hdg _ trivial) ?_))
                go_roundw
                case rel => exact ⟨m + 1, by omega, by go_num, b10⟩
                case measure => simp [intOf]; omega
              · go_wp2_with (first
                  | (refine Held.wpList_run (w := w1) rfl (v := .bool false) (Sp.y_geq (S := fun _ => True) rfl rfl rfl hdg _ trivial) ?_))
                go_roundw
                case rel => exact ⟨m + 1, by omega, by go_num, b10⟩
                case measure => simp [intOf]; omega
            · clear lr hl9 HRQ b9
              go_wp2_with (first
                | (refine wpList_load_blk (w := wr) rfl 23 _ rfl (w.heap.size) 4 rfl 23 _ qp _ Tryd.underlying23 rfl (by kernel_rfl) rfl ?_))
              refine (HY'.out wr (hT.below bw hTw) qd).mono ?_
              rintro e w9 ⟨rfl, b9⟩
              have oa := oa.below b9
              have qd := qd.after b9
              have qp := qp.after b9
              have bw := bw.trans (b9.mono hwi)
              have hw9 := bw.size
              have hsB : n < (flat Vm.kB (dnB N n)).toArray.size := by rw [List.size_toArray, flatB, List.length_map, dnB_length]; exact hlt
              go_wp2_with (first
                | (refine Held.wpList_store_field (w := w9) rfl 4 _ _ rfl gd n rfl 4 _ (.bool true) rfl qd hsB (by kernel_rfl) rfl rfl ?_; intro w10 qe ge ze))
              rw [dnB_set hlt] at qe
              go_roundw
              case rel => exact ⟨n + 1, by omega, by go_num, oa.kept ge (.inr (oa.ne_blk qd (by decide))), qe, qp.grown ge (by intro e; injection e with e; omega), bw.grown ge hw9 (fun r e => by cases e; omega)⟩
              case measure => simp [intOf]; omega
    · obtain rfl : n = N := by omega
      have hfn : l.take n = l := List.take_of_length_le (Nat.le_of_eq HNN.out)
      rw [hfn] at oa
      have haw := HAW.out n
      have hal := HAL.out n (Nat.le_of_eq HNN.out.symm)
      rw [hfn] at haw hal
      have HAW2 := Lib.hid haw
      obtain ⟨A4, n4, c4, rfl, HN4, hnc4, hcm4⟩ := oa.form2
      rw [HN4.out] at hal
      clear hfn haw HAW HAL HW HR HY HWW HRW
      go_wp2_with (first
        | (refine wpList_load_blk (w := wr) rfl 23 _ rfl (w.heap.size) 4 rfl 23 _ qp _ Tryd.underlying23 rfl (by kernel_rfl) rfl ?_))
      refine (HL.out wr (hT.below bw hTw)).mono ?_
      rintro e w7 ⟨A1, m1, c1, rfl, hm1, o1, b7⟩
      have oa := oa.below b7
      have bw := bw.trans (b7.mono hwz)
      have la := oa.lst HAW2.out
      have lq : Lst kS w7 w7.heap.size A1 m1 (lastT M (T : Int)) := OwnL.lst (xs := lastT M (T : Int)) o1 HLW.out
      have HIL := Lib.hid (fun (m : Nat) (hm : m < m1) => show decide ((lastT M (T : Int)).getD m S0 ∈ l.flatMap (writesT k)) = true from decide_eq_true (HO.out.last _ (by
        have := hm1.out
        rw [List.getD_eq_getElem?_getD, List.getElem?_eq_getElem (by omega), Option.getD_some]
        exact List.getElem_mem _)))
      have hmM : m1 ≤ 1000 := by
        have h1 := hm1.out
        have h2 := HM32.out
        simp [lastT] at h1
        omega
      generalize l.flatMap (writesT k) = L4 at *
      generalize lastT M (T : Int) = rs at *
      have hw7 := bw.size
      clear o1 oa b7 hm1 qd qp
      go_wp2_with fail
      go_loopw [13] (fun j wr => ∃ m : Nat, m ≤ m1 ∧ j = .int .i64 m ∧ Below w7.heap.size w7 wr) (fun j _ => m1 - (intOf j).toNat)
      case atStart => exact ⟨0, by omega, rfl, Below.refl _ _⟩
      case round =>
        obtain ⟨m, hm, rfl, b9⟩ := hrel
        have bw := bw.trans (b9.mono hw7)
        have hl9 := lq.below b9
        have la9 := la.below b9
        have hsz := b9.size
        by_cases hlm : m < m1
        · have hlm' : (m : Int) < (m1 : Int) := by omega
          have hm0 : (0 : Int) ≤ (m : Int) := by omega
          have haddm : IntKind.i64.wrap ((m : Int) + 1) = (m : Int) + 1 := by rw [IntKind.wrap_i64]; omega
          have HIm := HIL.out m hlm
          obtain ⟨bl, off, rfl, hbl, hx⟩ := hl9.at_ hlm
          have hx : wr.rangeAt bl (off + m * 3) (rs.getD m S0).cells := hx
          generalize rs.getD m S0 = sx at hx HIm
          obtain ⟨ph, rd, ad⟩ := sx
          have hx : wr.rangeAt bl (off + m * 3) [.int .i64 ph, .int .i64 rd, .int .i64 ad] := hx
          have HIN := Lib.hid (show Calls Tryd.prog 28 #[.slice A4 n4 c4, .agg #[.int .i64 ph, .int .i64 rd, .int .i64 ad]] wr fun e w' => e = .returned (.bool true) ∧ Below wr.heap.size wr w' from by
            have := inS_any w7.heap.size A4 n4 c4 L4 ⟨ph, rd, ad⟩ wr la9 hsz (by omega)
            rwa [HIm] at this)
          clear HIm
          go_wp2_with (first
            | (refine wpList_load_mid (w := wr) rfl 42 _ rfl bl (off + m * 3) rfl [.int .i64 ph, .int .i64 rd, .int .i64 ad] _ hx Tryd.underlying42 rfl (by kernel_rfl) ?_))
          refine HIN.out.mono ?_
          rintro e w9 ⟨rfl, b10⟩
          have b11 := b9.trans (b10.mono hsz)
          clear hx b10 b9 HIN
          go_wp2_with fail
          go_roundw
          case rel => exact ⟨m + 1, by omega, by go_num, b11⟩
          case measure => simp [intOf]; omega
        · go_wp2_with fail
          go_ret
          exact ⟨rfl, bw⟩
theorem walk (pr0 pk0 pb0 pw0 : Int) (w : World) (wr0 : (Lit.int .i64 pr0).wf = true) (wk0 : (Lit.int .i64 pk0).wf = true) (wb0 : (Lit.int .i64 pb0).wf = true) (ww0 : (Lit.int .i64 pw0).wf = true) (hL : laidMetH Tryd.prog laidList w) :
    Calls Tryd.prog 5 #[.agg #[.int .i64 pr0, .int .i64 pk0, .int .i64 pb0, .int .i64 pw0]] w fun e w' => e = .returned (.bool true) ∧ Below w.heap.size w w' := by
  exact (fun _ _ _ => start pr0 pk0 pb0 pw0 w (wf_says wk0).1 (wf_says wk0).2 (Bi.bits_of_laid hL)) wr0 wb0 ww0
set_option maxRecDepth 100000 in
theorem door_met (os : Os) (args : Array Value) : laidMetH Tryd.prog laidList ((World.doorLaid Tryd.prog 400 os).forCall (fun _ _ => 0) ⟨#[], args, []⟩).memory :=
  laidMetH_of_parts3 (fuel := 8) (laidMet_of_run' 8 (by kernel_rfl) (by kernel_rfl)) (by kernel_rfl) (by kernel_rfl)
set_option maxRecDepth 100000 in
theorem lifted (os : Os) (started : os.Started) (H : Type) (enc : TypeId × Value → H) :
    ReturnsInHanded {} Tryd.checked os 5 .any (fun w args => (Rows.shapeOrderSpec.pre enc Tryd.prog Tryd.f5 [] false w args ∧ laidMetH Tryd.prog laidList w) ∧ sizedMet enc Tryd.prog Tryd.f5 (OpenSpec.ofChange Rows.shapeOrderSpec) false w args)
      (Rows.shapeOrderSpec.post enc Tryd.prog Tryd.f5 false true false false) := by
  refine returnsInHanded_of_change_and (C := Tryd.checked) (X := fun w _ => laidMetH Tryd.prog laidList w) (fun _ _ _ hh h => h.of_heap hh) own started (by kernel_rfl) Tryd.func5
    (ChangeSpec.witness_shaped (enc := enc) (C := Tryd.checked) (os := os) (X := fun w _ => laidMetH Tryd.prog laidList w) false (World.doorLaid Tryd.prog 400 os) #[.agg #[.int .i64 0, .int .i64 0, .int .i64 0, .int .i64 0]] 8 rfl (World.shaped_of_RefB (by kernel_rfl) (by kernel_rfl)) (by kernel_rfl) (by kernel_rfl) (by kernel_rfl) (door_met os _)) ?_
  intro W base args ds gs before hval0 hW _ _ hL _
  have hval : ∀ (j : Nat) t v, Tryd.f5.params[j]? = some t → args[j]? = some v → Value.okWide Tryd.prog W .any base t v := hval0
  have hW' := hW
  obtain ⟨p, q, hA0, hV, rfl, hfz, hnd⟩ := hW
  have hA : DataW.TrodAll enc Tryd.prog W 0 (fun _ => true) true Tryd.f5.params.toList args.toList ds p := hA0
  rw [Tryd.params5] at hA hval
  obtain ⟨v0, vs0, d0, ds0, p0, q0, hargs, rfl, rfl, h0, r0⟩ := trodAll_cons hA
  obtain ⟨rfl, rfl, rfl⟩ := trodAll_nil r0
  obtain rfl : args = #[v0] := by cases args; simp_all
  obtain ⟨rfl, rfl⟩ := trodVars_none hV
  have kk0 := h0
  have lt0 : ∀ x ∈ p0, x.block < W.heap.size := by obtain ⟨m, hm⟩ := kk0; exact DataW.trod_lt m _ _ _ hm
  obtain ⟨pr0, pk0, pb0, pw0, rfl, wr0, wk0, wb0, ww0⟩ := Sp.open_params (hval 0 23 v0 rfl rfl) h0
  clear hA0 hval0
  refine (walk pr0 pk0 pb0 pw0 W wr0 wk0 wb0 ww0 hL).mono fun e W' ⟨he, bel⟩ => ?_
  subst he
  exact ⟨_, rfl, _, _, _, [], _, [], hW', trodAll_mk1 (shut_bool Tryd.underlying4 _), (trodAll_cons_mk (Below.trod laidOut (by kernel_rfl) (of_decide_eq_true (by kernel_rfl)) kk0 bel lt0) trodAll_mk0), rfl, bel.frame _, fun h => by cases h⟩
theorem over : Rows.shapeOrderRow.holds Tryd.pinned (OpenSpec.ofChange Rows.shapeOrderSpec) :=
  OpenClaim.holds_of_wide 5 Tryd.f5 rfl rfl rfl rfl rfl rfl rfl ⟨rfl, rfl, rfl, rfl, rfl⟩ rfl rfl rfl rfl rfl (by kernel_rfl) Tryd.func5 (by kernel_rfl)
    (of_decide_eq_true (by kernel_rfl)) (by unfold Func.isWrapper; first | (rw [if_pos (by decide +kernel)]; kernel_rfl) | (rw [if_neg (by decide +kernel)]; exact ⟨rfl, rfl⟩))
    (fun os started H enc _ => lifted os started H enc)
theorem proved : Rows.ShapeOrderCardSaid :=
  Claim7.holds_tied_plain_at .later [] [.data, .data] true (true, "b51c9af04704eea82f655a5f45461bda46be16b68d0798ec6033d81cff00a01d") false
    over (fun _ h => by cases h) (by kernel_rfl) (fun _ h => by cases h) shapeOrder_row_tie rfl ⟨rfl, rfl⟩ (by kernel_rfl) rfl
    (fun f fn hf hfn => by
      obtain rfl : f = 5 := Option.some.inj ((show Tryd.prog.funcNamed "domino/dominolaw17.ShapeOrder" = some 5 by kernel_rfl).symm.trans hf) |>.symm
      obtain rfl : fn = Tryd.f5 := (Option.some.inj (Tryd.func5.symm.trans hfn)).symm
      exact ⟨by kernel_rfl, fun j t ht => by
        rw [Tryd.params5] at ht
        have hm : t ∈ [23] := by simpa using Array.mem_of_getElem? ht
        have hall : ([23].all fun u => !Tryd.prog.wantsStandIn u) = true := by kernel_rfl
        exact (show Tryd.prog.wantsStandIn t = false by simpa using List.all_eq_true.1 hall t hm)⟩)
    (by kernel_rfl)
#print axioms proved
end Go.Proofs.YtipmfficjomcoaaDoor.shapeOrder
