/-
  The law ShapeSpots of package dominolaw17 returns true for all public numbers, every number, every spot, and every list of truths: what each task reads and writes, who makes a spot, when a task is ready, and where all stands in the end is what the document tells.
-/
import Derived.Test.YtipmfficjomcoaaDoorRows
import Derived.Test.YtipmfficjomcoaaDoorCards
import Derived.Test.YtipmfficjomcoaaDoorTie
import Derived.SevenTiedAt
import Derived.WalkKit
import Derived.ProofKit
import Derived.OpenShut
import Derived.ShutString
import Derived.ChangeOld
import Derived.Below
import Derived.LaidMore
import Derived.Stop.Joined
import Derived.Test.YtipmfficjomcoaaDoorB16
import Derived.Test.YtipmfficjomcoaaDoorB15
import Derived.Test.YtipmfficjomcoaaDoorB17
import Derived.Test.YtipmfficjomcoaaDoorB12
namespace Go.Proofs.YtipmfficjomcoaaDoor.shapeSpots
open Go.ChangeShapes Go.WideShapes Go.ChangeAt Go.RowKit
open Go.ChangeMaps (open_string shut_string)
open Go.Shelf Go.Proofs.YtipmfficjomcoaaDoor Mem Held Go.Proofs.YtipmfficjomcoaaDoor.Range Rs Sl Sh
theorem own : ownKnob Tryd.prog.godebug = none := by kernel_rfl
theorem laidOut : laidOutB Tryd.prog = true := by kernel_rfl
def laidList : List (String × DataW Unit) := [("math/bits.deBruijn32tab", Rows.laid_math_bits_deBruijn32tab), ("math/bits.deBruijn64tab", Rows.laid_math_bits_deBruijn64tab)]
attribute [local irreducible] wpList wpListIn Calls
attribute [local go_sem] Oper.semAt_some
theorem wf_says {z : Int} (h : (Lit.int .i64 z).wf = true) : -9223372036854775808 ≤ z ∧ z ≤ 9223372036854775807 := by
  simp [Lit.wf, IntKind.min, IntKind.max, IntKind.signed, IntKind.bits] at h
  omega
theorem plainS_same (B B' : Nat) (A A' : Option Addr) (n n' c c' : Nat) (rs : List Sp) (w : World) (h : Lst kS w B A n rs) (h' : Lst kS w B' A' n' rs) (hB : B ≤ w.heap.size) (hB' : B' ≤ w.heap.size) (hl : rs.length ≤ 1000) :
    Calls Tryd.prog 17 #[.slice A n c, .slice A' n' c'] w fun e w' => e = .returned (.bool true) ∧ Below w.heap.size w w' := by
  have h1 := h.1
  have h2 := h'.1
  have := plainS_any B B' A A' n n' c c' rs rs w h h' hB hB' (by omega) (by omega)
  rwa [decide_eq_true (rfl : rs = rs)] at this
set_option maxRecDepth 100000 in
set_option maxHeartbeats 32000000 in
theorem start (r k b wk n ph rd ad : Int) (Ad : Option Addr) (nd cd : Nat) (bs : List Bool) (w : World) (hk0 : -9223372036854775808 ≤ k) (hk1 : k ≤ 9223372036854775807) (hn0 : -9223372036854775808 ≤ n) (hn1 : n ≤ 9223372036854775807) (hT : Bi.TzT w) (hd : Lst Vm.kB w w.heap.size Ad nd bs) :
    Calls Tryd.prog 4 #[.agg #[.int .i64 r, .int .i64 k, .int .i64 b, .int .i64 wk], .int .i64 n, .agg #[.int .i64 ph, .int .i64 rd, .int .i64 ad], .slice Ad nd cd] w fun e w' => e = .returned (.bool true) ∧ Below w.heap.size w w' := by
  have hTw := hT.lt
  go_enter Tryd.func4, Tryd.ntmps4
  go_wp2_with (first
    | (refine wpList_box_blk (w := w) rfl 23 _ rfl _ rfl ?_; intro u0 qu0 gu0 zu0)
    | (refine wpList_box_blk (w := u0) rfl 42 _ rfl _ rfl ?_; intro u1 qu1 gu1 zu1; have bo1 : Below w.heap.size w u1 := ((Below.refl _ w).grown gu0 (Nat.le_refl _) (by simp)).grown gu1 gu0.size (by simp); have q1 := qu0.grown gu1 (by simp))
    | (refine wpList_load_blk (w := u1) rfl 23 _ rfl (w.heap.size) 4 rfl 23 _ q1 _ Tryd.underlying23 rfl (by kernel_rfl) rfl ?_))
  refine (few_any r k b wk u1).mono ?_
  rintro e w2 ⟨x, rfl, hF, b2⟩
  have q2 := q1.after b2
  have s2 := qu1.after b2
  have bo2 := bo1.trans (b2.mono bo1.size)
  have hs2 := bo2.size
  have hws : w.heap.size < u0.heap.size := qu0.lt
  generalize u0.heap.size = gs at *
  clear hF b2 qu0 qu1 gu0 gu1 zu0 zu1 bo1 q1
  by_cases hlarge : (2000 : Int) < (nd : Int)
  · go_wp2_with (first
      | (refine wpList_store_blk (w := w2) rfl 23 _ _ rfl (w.heap.size) 4 rfl 23 _ #[.int .i64 x, .int .i64 k, .int .i64 b, .int .i64 wk] rfl q2 (by kernel_rfl) rfl rfl (by kernel_rfl) ?_; intro u3 qu3 gu3 zu3; have bo3 := bo2.grown gu3 hs2 (fun r e => by cases e; exact Nat.le_refl _)))
    refine (awake17_any _ (hT.below bo3 hTw)).mono ?_
    rintro e w4 ⟨rfl, b4⟩
    go_wp2_with fail
    go_ret
    exact ⟨rfl, bo3.trans (b4.mono bo3.size)⟩
  go_wp2_with (first
    | (refine wpList_store_blk (w := w2) rfl 23 _ _ rfl (w.heap.size) 4 rfl 23 _ #[.int .i64 x, .int .i64 k, .int .i64 b, .int .i64 wk] rfl q2 (by kernel_rfl) rfl rfl (by kernel_rfl) ?_; intro u3 qu3 gu3 zu3; have bo3 := bo2.grown gu3 hs2 (fun r e => by cases e; exact Nat.le_refl _); have s3 := s2.grown gu3 (by intro e; injection e with e; omega))
    | (refine wpList_load_blk (w := u3) rfl 23 _ rfl (w.heap.size) 4 rfl 23 _ qu3 _ Tryd.underlying23 rfl (by kernel_rfl) rfl ?_))
  have h := job_of (r := x) (b := b) (wk := wk) hk0 hk1
  have HRT := fun W => rtasks_any x k b wk hk0 hk1 W
  have HTA := Lib.hid (fun W hT => task_any x k b wk n hk0 hk1 hn0 hn1 W hT)
  have HR1 := Lib.hid (fun W hT => reads_of x k b wk n hk0 hk1 hn0 hn1 W hT)
  have HR2 := Lib.hid (fun W => rreads_of x k b wk n hk0 hk1 W)
  have HW1 := Lib.hid (fun W hT => writes_of x k b wk n hk0 hk1 hn0 hn1 W hT)
  have HW2 := Lib.hid (fun W => rwrites_of x k b wk n hk0 hk1 W)
  have HL1 := Lib.hid (fun W hT => last_of x k b wk hk0 hk1 W hT)
  have HL2 := Lib.hid (fun W => rlast_any x k b wk hk0 hk1 W)
  have HM1 := Lib.hid (fun W hT => makes_any x k b wk ph rd ad hk0 hk1 W hT)
  have HM2 := Lib.hid (fun W => rmakes_any x k b wk ph rd ad hk0 hk1 W)
  have HY1 := Lib.hid (fun W hT hd hB => ready_of w.heap.size Ad nd cd bs x k b wk n hk0 hk1 hn0 hn1 W hT hd hB)
  have HY2 := Lib.hid (fun W hd hB => rready_of w.heap.size Ad nd cd bs x k b wk n hk0 hk1 W hd hB)
  have HKR := fun (i : Nat) (t : Tk) (ht : (tasksT (inN x k b wk) (mpN x k b wk) (mN x k b wk) (tN x k b wk))[i]? = some t) => task_right ht
  refine (HRT u3).mono ?_
  clear HRT
  generalize inN x k b wk = I at *
  generalize mpN x k b wk = mp at *
  generalize mN x k b wk = M at *
  generalize tN x k b wk = T at *
  have ht15 := h.t15
  have h32 := h.m32
  have HXR := Lib.hid (show (∀ s ∈ readsO (T : Int) (taskAt (tasksT I mp M T) n), s.wf) ∧ (readsO (T : Int) (taskAt (tasksT I mp M T) n)).length ≤ 1000 by
    cases htk : taskAt (tasksT I mp M T) n with
    | none => exact ⟨fun s hs => (by cases hs), by simp [readsO]⟩
    | some t =>
      have hat := taskAt_at htk
      exact ⟨reads_wf (tasks_bi h hat) (by omega) (by omega), Nat.le_trans (reads_length _ _) (by omega)⟩)
  have HXW := Lib.hid (show (∀ s ∈ writesO k (taskAt (tasksT I mp M T) n), s.wf) ∧ (writesO k (taskAt (tasksT I mp M T) n)).length ≤ 1000 by
    cases htk : taskAt (tasksT I mp M T) n with
    | none => exact ⟨fun s hs => (by cases hs), by simp [writesO]⟩
    | some t =>
      have hat := taskAt_at htk
      have hr := HKR _ t hat
      exact ⟨writes_wf (tasks_bi h hat) (fun _ => ⟨by omega, by omega⟩), Nat.le_trans (writes_length (fun _ => ⟨by omega, by omega⟩)) (by omega)⟩)
  have HXL := Lib.hid (show (∀ s ∈ lastT M (T : Int), s.wf) ∧ (lastT M (T : Int)).length ≤ 1000 from ⟨last_wf (by omega) (by omega) h32, by simp [lastT]; omega⟩)
  have HWF := Lib.hid (show ∀ t ∈ tasksT I mp M T, kT.wf t from fun t ht => (tasks_b h ht).wf)
  generalize tasksT I mp M T = l at *
  generalize readsO (T : Int) (taskAt l n) = xr at *
  generalize writesO k (taskAt l n) = xw at *
  generalize lastT M (T : Int) = xl at *
  generalize makesT k l ⟨ph, rd, ad⟩ = mk at *
  generalize readyT k l (T : Int) bs (taskAt l n) = rb at *
  rintro e w5 ⟨A0, N, c0, rfl, hN, o5, b5⟩
  have q5 := qu3.after b5
  have s5 := s3.after b5
  have bo5 := bo3.trans (b5.mono bo3.size)
  have hs5 := bo5.size
  have L5 : Lst kT w5 w5.heap.size A0 N l := OwnL.lst o5 HWF.out
  have hN' := hN.out
  clear h HKR o5 b5 qu3 gu3 zu3 bo3 s3 q2 s2 bo2 hs2 ht15 h32 hN HWF
  go_wp2_with (first
    | (refine wpList_load_blk (w := w5) rfl 23 _ rfl (w.heap.size) 4 rfl 23 _ q5 _ Tryd.underlying23 rfl (by kernel_rfl) rfl ?_))
  refine (HTA.out _ (hT.below bo5 hTw)).mono ?_
  rintro e w6 ⟨rfl, b6⟩
  have q6 := q5.after b6
  have s6 := s5.after b6
  have bo6 := bo5.trans (b6.mono bo5.size)
  have L6 := L5.below b6
  have hz6 := b6.size
  clear L5 bo5 b6 q5 s5 HTA
  have hnone : n < 0 ∨ (0 ≤ n ∧ (N : Int) ≤ n) ∨ ∃ i : Nat, n = (i : Int) ∧ i < N := by
    rcases Int.lt_or_le n 0 with c | c
    · exact .inl c
    · rcases Int.lt_or_le n (N : Int) with d | d
      · exact .inr (.inr ⟨n.toNat, by omega, by omega⟩)
      · exact .inr (.inl ⟨c, d⟩)
  rcases hnone with hneg | ⟨hpos, hge⟩ | ⟨i, rfl, hlt⟩
  · have htk := taskAt_lt (l := l) hneg
    rw [htk]
    have hdB : decide ((0 : Int) ≤ n) = false := decide_eq_false (by omega)
    clear L6 hN'
    rw [show tkV (Option.getD (none : Option Tk) T0) = .agg #[.int .i64 0, .int .i64 0, .int .i64 0, .int .i64 0, .bool false] from rfl, show Option.isSome (none : Option Tk) = false from rfl]
    clear htk
    go_wp2_with (first
      | (refine wpList_alloc_blk (w := w6) rfl 34 rfl #[.int .i64 0, .int .i64 0, .int .i64 0, .int .i64 0, .bool false] (by kernel_rfl) ?_; intro u7 qu7 gu7 zu7)
      | (refine wpList_store_blk (w := u7) rfl 34 _ _ rfl (w6.heap.size) 5 rfl 34 _ #[.int .i64 0, .int .i64 0, .int .i64 0, .int .i64 0, .bool false] rfl qu7 (by kernel_rfl) rfl rfl (by kernel_rfl) ?_; intro u8 qu8 gu8 zu8; have b8 : Below w.heap.size w u8 := (bo6.grown gu7 bo6.size (by simp)).grown gu8 (Nat.le_trans bo6.size gu7.size) (fun r e => by injection e with e; have := bo6.size; omega); have qp8 := (q6.grown gu7 (by simp)).grown gu8 (by intro e; injection e with e; have := q6.lt; omega); have qs8 := (s6.grown gu7 (by simp)).grown gu8 (by intro e; injection e with e; have := s6.lt; omega))
      | (refine Held.wpList_run (w := u8) rfl (v := .bool false) (Sp.y_geq (S := fun _ => True) rfl rfl rfl hdB _ trivial) ?_)
      | (refine wpList_build_blk rfl 34 #[] rfl #[.int .i64 0, .int .i64 0, .int .i64 0, .int .i64 0, .bool false] (by kernel_rfl) ?_)
      | (refine wpList_alloc_blk (w := u8) rfl 34 rfl #[.int .i64 0, .int .i64 0, .int .i64 0, .int .i64 0, .bool false] (by kernel_rfl) ?_; intro u9 qu9 gu9 zu9)
      | (refine wpList_store_blk (w := u9) rfl 34 _ _ rfl (u8.heap.size) 5 rfl 34 _ #[.int .i64 0, .int .i64 0, .int .i64 0, .int .i64 0, .bool false] rfl qu9 (by kernel_rfl) rfl rfl (by kernel_rfl) ?_; intro wA qwA gwA zwA; have bA : Below w.heap.size w wA := (b8.grown gu9 b8.size (by simp)).grown gwA (Nat.le_trans b8.size gu9.size) (fun r e => by injection e with e; have := b8.size; omega); have qpA := (qp8.grown gu9 (by simp)).grown gwA (by intro e; injection e with e; have := qp8.lt; omega); have qsA := (qs8.grown gu9 (by simp)).grown gwA (by intro e; injection e with e; have := qs8.lt; omega); have qtA := (qu8.grown gu9 (by simp)).grown gwA (by intro e; injection e with e; have := qu8.lt; omega)))
    generalize w6.heap.size = gt at *
    generalize u8.heap.size = gw at *
    have qp := qpA
    have qs := qsA
    have qt := qtA
    have qw := qwA
    have bB := bA
    obtain ⟨wB, rfl⟩ : ∃ W, W = wA := ⟨_, rfl⟩
    clear qpA qsA qtA qwA bA qu8 qu9 gu7 gu8 gu9 gwA zu7 zu8 zu9 zwA qu7 b8 qp8 qs8 q6 s6 bo6 hz6
    refine wp_region_held (S := fun W => Below wB.heap.size wB W) (by kernel_rfl) ?_
    change wpAnyH _ _ _ _ _ _ _ _ wB.drew
    have c0_0 := (Below.refl wB.heap.size wB).drew
    refine Held.one 0 (by kernel_rfl) ?_
    refine Held.op_call 0 (some 42) 12 #[] rfl rfl rfl rfl (enters_of Tryd.func12 (by kernel_rfl) rfl) (by simp)
      (awake17_any _ (hT.below (bB.trans (c0_0.mono bB.size)) hTw)) ?_
    rintro e w1 ⟨rfl, b1⟩
    have c0_1 := c0_0.trans (b1.mono c0_0.size)
    refine ⟨_, rfl, c0_1, ?_⟩
    simp only [Act.put, Z1, Z2, Z3]
    refine Held.tk (v := .bool true) 1 (some 43) rfl (Held.y_move rfl rfl) c0_1 ?_
    simp only [Act.put, Z1, Z2, Z3]
    refine Held.tk (v := .bool false) 2 (some 44) rfl (Held.y_move rfl rfl) c0_1 ?_
    simp only [Act.put, Z1, Z2, Z3]
    refine Held.tk (v := .bool false) 3 (some 45) rfl (Held.y_move rfl rfl) c0_1 ?_
    simp only [Act.put, Z1, Z2, Z3]
    refine Held.tk (v := .bool true) 4 (some 46) rfl (Held.y_eqb (a := false) (b := false) rfl rfl rfl rfl Tryd.underlying4) c0_1 ?_
    simp only [Act.put, Z1, Z2, Z3]
    refine Held.tk (v := .bool true) 5 (some 47) rfl (Held.y_pick rfl rfl rfl) c0_1 ?_
    simp only [Act.put, Z1, Z2, Z3]
    refine Held.tk (v := .bool true) 6 (some 48) rfl (Held.y_move rfl rfl) c0_1 ?_
    simp only [Act.put, Z1, Z2, Z3]
    refine Held.tk (v := .agg #[.int .i64 0, .int .i64 0, .int .i64 0, .int .i64 0, .bool false]) 7 (some 49) rfl (Held.y_load_blk (n := 5) rfl rfl Tryd.underlying34 rfl (by kernel_rfl) rfl (fun W hW => qt.after hW)) c0_1 ?_
    simp only [Act.put, Z1, Z2, Z3]
    refine Held.tk (v := .agg #[.int .i64 0, .int .i64 0, .int .i64 0, .int .i64 0, .bool false]) 8 (some 50) rfl (Held.y_load_blk (n := 5) rfl rfl Tryd.underlying34 rfl (by kernel_rfl) rfl (fun W hW => qw.after hW)) c0_1 ?_
    simp only [Act.put, Z1, Z2, Z3]
    refine Held.tk (v := .bool true) 9 (some 51) rfl (y_eqT (a := ⟨0, 0, 0, 0, false⟩) (b := ⟨0, 0, 0, 0, false⟩) rfl rfl rfl (by simp)) c0_1 ?_
    simp only [Act.put, Z1, Z2, Z3]
    refine Held.tk (v := .bool true) 10 (some 52) rfl (Held.y_pick rfl rfl rfl) c0_1 ?_
    simp only [Act.put, Z1, Z2, Z3]
    refine Held.tk (v := .bool true) 11 (some 53) rfl (Held.y_move rfl rfl) c0_1 ?_
    simp only [Act.put, Z1, Z2, Z3]
    refine Held.tk (v := .agg #[.int .i64 x, .int .i64 k, .int .i64 b, .int .i64 wk]) 12 (some 54) rfl (Held.y_load_blk (n := 4) rfl rfl Tryd.underlying23 rfl (by kernel_rfl) rfl (fun W hW => qp.after hW)) c0_1 ?_
    simp only [Act.put, Z1, Z2, Z3]
    refine Held.tk (v := .int .i64 n) 13 (some 55) rfl (Held.y_move rfl rfl) c0_1 ?_
    simp only [Act.put, Z1, Z2, Z3]
    refine Held.tk (v := .agg #[.int .i64 x, .int .i64 k, .int .i64 b, .int .i64 wk]) 15 (some 57) rfl (Held.y_load_blk (n := 4) rfl rfl Tryd.underlying23 rfl (by kernel_rfl) rfl (fun W hW => qp.after hW)) c0_1 ?_
    simp only [Act.put, Z1, Z2, Z3]
    refine Held.tk (v := .int .i64 n) 16 (some 58) rfl (Held.y_move rfl rfl) c0_1 ?_
    simp only [Act.put, Z1, Z2, Z3]
    refine Held.one 14 (by kernel_rfl) ?_
    refine Held.op_call 14 (some 56) 18 #[.agg #[.int .i64 x, .int .i64 k, .int .i64 b, .int .i64 wk], .int .i64 n] rfl rfl rfl rfl (enters_of Tryd.func18 (by kernel_rfl) rfl) (by simp [Act.eval])
      (HR1.out _ (hT.below (bB.trans (c0_1.mono bB.size)) hTw)) ?_
    rintro e w2 ⟨A2, n2, c2, rfl, hm2, o2, b2⟩
    have c0_2 := c0_1.trans (b2.mono c0_1.size)
    have L2 : Lst kS w2 w2.heap.size A2 n2 xr := OwnL.lst o2 HXR.out.1
    clear o2 hm2
    refine ⟨_, rfl, c0_2, ?_⟩
    simp only [Act.put, Z1, Z2, Z3]
    refine Held.one 17 (by kernel_rfl) ?_
    refine Held.op_call 17 (some 59) 19 #[.agg #[.int .i64 x, .int .i64 k, .int .i64 b, .int .i64 wk], .int .i64 n] rfl rfl rfl rfl (enters_of Tryd.func19 (by kernel_rfl) rfl) (by simp [Act.eval])
      (HR2.out _) ?_
    rintro e w3 ⟨A3, n3, c3, rfl, hm3, o3, b3⟩
    have c0_3 := c0_2.trans (b3.mono c0_2.size)
    have L3 : Lst kS w3 w3.heap.size A3 n3 xr := OwnL.lst o3 HXR.out.1
    clear o3 hm3
    refine ⟨_, rfl, c0_3, ?_⟩
    simp only [Act.put, Z1, Z2, Z3]
    refine Held.one 18 (by kernel_rfl) ?_
    refine Held.op_call 18 (some 60) 17 #[.slice A2 n2 c2, .slice A3 n3 c3] rfl rfl rfl rfl (enters_of Tryd.func17 (by kernel_rfl) rfl) (by simp [Act.eval])
      (plainS_same w2.heap.size w3.heap.size A2 A3 n2 n3 c2 c3 xr _ (L2.below b3) L3 b3.size (Nat.le_refl _) HXR.out.2) ?_
    rintro e w4 ⟨rfl, b4⟩
    have c0_4 := c0_3.trans (b4.mono c0_3.size)
    clear L2 L3
    refine ⟨_, rfl, c0_4, ?_⟩
    simp only [Act.put, Z1, Z2, Z3]
    refine Held.tk (v := .bool true) 19 (some 61) rfl (Held.y_pick rfl rfl rfl) c0_4 ?_
    simp only [Act.put, Z1, Z2, Z3]
    refine Held.tk (v := .bool true) 20 (some 62) rfl (Held.y_move rfl rfl) c0_4 ?_
    simp only [Act.put, Z1, Z2, Z3]
    refine Held.tk (v := .agg #[.int .i64 x, .int .i64 k, .int .i64 b, .int .i64 wk]) 21 (some 63) rfl (Held.y_load_blk (n := 4) rfl rfl Tryd.underlying23 rfl (by kernel_rfl) rfl (fun W hW => qp.after hW)) c0_4 ?_
    simp only [Act.put, Z1, Z2, Z3]
    refine Held.tk (v := .int .i64 n) 22 (some 64) rfl (Held.y_move rfl rfl) c0_4 ?_
    simp only [Act.put, Z1, Z2, Z3]
    refine Held.tk (v := .agg #[.int .i64 x, .int .i64 k, .int .i64 b, .int .i64 wk]) 24 (some 66) rfl (Held.y_load_blk (n := 4) rfl rfl Tryd.underlying23 rfl (by kernel_rfl) rfl (fun W hW => qp.after hW)) c0_4 ?_
    simp only [Act.put, Z1, Z2, Z3]
    refine Held.tk (v := .int .i64 n) 25 (some 67) rfl (Held.y_move rfl rfl) c0_4 ?_
    simp only [Act.put, Z1, Z2, Z3]
    refine Held.one 23 (by kernel_rfl) ?_
    refine Held.op_call 23 (some 65) 20 #[.agg #[.int .i64 x, .int .i64 k, .int .i64 b, .int .i64 wk], .int .i64 n] rfl rfl rfl rfl (enters_of Tryd.func20 (by kernel_rfl) rfl) (by simp [Act.eval])
      (HW1.out _ (hT.below (bB.trans (c0_4.mono bB.size)) hTw)) ?_
    rintro e w5 ⟨A5, n5, c5, rfl, hm5, o5, b5⟩
    have c0_5 := c0_4.trans (b5.mono c0_4.size)
    have L5 : Lst kS w5 w5.heap.size A5 n5 xw := OwnL.lst o5 HXW.out.1
    clear o5 hm5
    refine ⟨_, rfl, c0_5, ?_⟩
    simp only [Act.put, Z1, Z2, Z3]
    refine Held.one 26 (by kernel_rfl) ?_
    refine Held.op_call 26 (some 68) 21 #[.agg #[.int .i64 x, .int .i64 k, .int .i64 b, .int .i64 wk], .int .i64 n] rfl rfl rfl rfl (enters_of Tryd.func21 (by kernel_rfl) rfl) (by simp [Act.eval])
      (HW2.out _) ?_
    rintro e w6 ⟨A6, n6, c6, rfl, hm6, o6, b6⟩
    have c0_6 := c0_5.trans (b6.mono c0_5.size)
    have L6 : Lst kS w6 w6.heap.size A6 n6 xw := OwnL.lst o6 HXW.out.1
    clear o6 hm6
    refine ⟨_, rfl, c0_6, ?_⟩
    simp only [Act.put, Z1, Z2, Z3]
    refine Held.one 27 (by kernel_rfl) ?_
    refine Held.op_call 27 (some 69) 17 #[.slice A5 n5 c5, .slice A6 n6 c6] rfl rfl rfl rfl (enters_of Tryd.func17 (by kernel_rfl) rfl) (by simp [Act.eval])
      (plainS_same w5.heap.size w6.heap.size A5 A6 n5 n6 c5 c6 xw _ (L5.below b6) L6 b6.size (Nat.le_refl _) HXW.out.2) ?_
    rintro e w7 ⟨rfl, b7⟩
    have c0_7 := c0_6.trans (b7.mono c0_6.size)
    clear L5 L6
    refine ⟨_, rfl, c0_7, ?_⟩
    simp only [Act.put, Z1, Z2, Z3]
    refine Held.tk (v := .bool true) 28 (some 70) rfl (Held.y_pick rfl rfl rfl) c0_7 ?_
    simp only [Act.put, Z1, Z2, Z3]
    refine Held.tk (v := .bool true) 29 (some 71) rfl (Held.y_move rfl rfl) c0_7 ?_
    simp only [Act.put, Z1, Z2, Z3]
    refine Held.tk (v := .agg #[.int .i64 x, .int .i64 k, .int .i64 b, .int .i64 wk]) 30 (some 72) rfl (Held.y_load_blk (n := 4) rfl rfl Tryd.underlying23 rfl (by kernel_rfl) rfl (fun W hW => qp.after hW)) c0_7 ?_
    simp only [Act.put, Z1, Z2, Z3]
    refine Held.tk (v := .agg #[.int .i64 ph, .int .i64 rd, .int .i64 ad]) 31 (some 73) rfl (Held.y_load_blk (n := 3) rfl rfl Tryd.underlying42 rfl (by kernel_rfl) rfl (fun W hW => qs.after hW)) c0_7 ?_
    simp only [Act.put, Z1, Z2, Z3]
    refine Held.tk (v := .agg #[.int .i64 x, .int .i64 k, .int .i64 b, .int .i64 wk]) 33 (some 75) rfl (Held.y_load_blk (n := 4) rfl rfl Tryd.underlying23 rfl (by kernel_rfl) rfl (fun W hW => qp.after hW)) c0_7 ?_
    simp only [Act.put, Z1, Z2, Z3]
    refine Held.tk (v := .agg #[.int .i64 ph, .int .i64 rd, .int .i64 ad]) 34 (some 76) rfl (Held.y_load_blk (n := 3) rfl rfl Tryd.underlying42 rfl (by kernel_rfl) rfl (fun W hW => qs.after hW)) c0_7 ?_
    simp only [Act.put, Z1, Z2, Z3]
    refine Held.one 32 (by kernel_rfl) ?_
    refine Held.op_call 32 (some 74) 22 #[.agg #[.int .i64 x, .int .i64 k, .int .i64 b, .int .i64 wk], .agg #[.int .i64 ph, .int .i64 rd, .int .i64 ad]] rfl rfl rfl rfl (enters_of Tryd.func22 (by kernel_rfl) rfl) (by simp [Act.eval])
      (HM1.out _ (hT.below (bB.trans (c0_7.mono bB.size)) hTw)) ?_
    rintro e w8 ⟨rfl, b8⟩
    have c0_8 := c0_7.trans (b8.mono c0_7.size)
    refine ⟨_, rfl, c0_8, ?_⟩
    simp only [Act.put, Z1, Z2, Z3]
    refine Held.one 35 (by kernel_rfl) ?_
    refine Held.op_call 35 (some 77) 23 #[.agg #[.int .i64 x, .int .i64 k, .int .i64 b, .int .i64 wk], .agg #[.int .i64 ph, .int .i64 rd, .int .i64 ad]] rfl rfl rfl rfl (enters_of Tryd.func23 (by kernel_rfl) rfl) (by simp [Act.eval])
      (HM2.out _) ?_
    rintro e w9 ⟨rfl, b9⟩
    have c0_9 := c0_8.trans (b9.mono c0_8.size)
    refine ⟨_, rfl, c0_9, ?_⟩
    simp only [Act.put, Z1, Z2, Z3]
    refine Held.tk (v := .bool true) 36 (some 78) rfl (Held.y_eqI rfl rfl rfl (by simp)) c0_9 ?_
    simp only [Act.put, Z1, Z2, Z3]
    refine Held.tk (v := .bool true) 37 (some 79) rfl (Held.y_pick rfl rfl rfl) c0_9 ?_
    simp only [Act.put, Z1, Z2, Z3]
    refine Held.tk (v := .bool true) 38 (some 80) rfl (Held.y_move rfl rfl) c0_9 ?_
    simp only [Act.put, Z1, Z2, Z3]
    refine Held.tk (v := .agg #[.int .i64 x, .int .i64 k, .int .i64 b, .int .i64 wk]) 39 (some 81) rfl (Held.y_load_blk (n := 4) rfl rfl Tryd.underlying23 rfl (by kernel_rfl) rfl (fun W hW => qp.after hW)) c0_9 ?_
    simp only [Act.put, Z1, Z2, Z3]
    refine Held.tk (v := .slice Ad nd cd) 40 (some 82) rfl (Held.y_move rfl rfl) c0_9 ?_
    simp only [Act.put, Z1, Z2, Z3]
    refine Held.tk (v := .int .i64 n) 41 (some 83) rfl (Held.y_move rfl rfl) c0_9 ?_
    simp only [Act.put, Z1, Z2, Z3]
    refine Held.tk (v := .agg #[.int .i64 x, .int .i64 k, .int .i64 b, .int .i64 wk]) 43 (some 85) rfl (Held.y_load_blk (n := 4) rfl rfl Tryd.underlying23 rfl (by kernel_rfl) rfl (fun W hW => qp.after hW)) c0_9 ?_
    simp only [Act.put, Z1, Z2, Z3]
    refine Held.tk (v := .slice Ad nd cd) 44 (some 86) rfl (Held.y_move rfl rfl) c0_9 ?_
    simp only [Act.put, Z1, Z2, Z3]
    refine Held.tk (v := .int .i64 n) 45 (some 87) rfl (Held.y_move rfl rfl) c0_9 ?_
    simp only [Act.put, Z1, Z2, Z3]
    refine Held.one 42 (by kernel_rfl) ?_
    refine Held.op_call 42 (some 84) 24 #[.agg #[.int .i64 x, .int .i64 k, .int .i64 b, .int .i64 wk], .slice Ad nd cd, .int .i64 n] rfl rfl rfl rfl (enters_of Tryd.func24 (by kernel_rfl) rfl) (by simp [Act.eval])
      (HY1.out _ (hT.below (bB.trans (c0_9.mono bB.size)) hTw) (hd.below (bB.trans (c0_9.mono bB.size))) (bB.trans (c0_9.mono bB.size)).size) ?_
    rintro e w10 ⟨rfl, b10⟩
    have c0_10 := c0_9.trans (b10.mono c0_9.size)
    refine ⟨_, rfl, c0_10, ?_⟩
    simp only [Act.put, Z1, Z2, Z3]
    refine Held.one 46 (by kernel_rfl) ?_
    refine Held.op_call 46 (some 88) 25 #[.agg #[.int .i64 x, .int .i64 k, .int .i64 b, .int .i64 wk], .slice Ad nd cd, .int .i64 n] rfl rfl rfl rfl (enters_of Tryd.func25 (by kernel_rfl) rfl) (by simp [Act.eval])
      (HY2.out _ (hd.below (bB.trans (c0_10.mono bB.size))) (bB.trans (c0_10.mono bB.size)).size) ?_
    rintro e w11 ⟨rfl, b11⟩
    have c0_11 := c0_10.trans (b11.mono c0_10.size)
    refine ⟨_, rfl, c0_11, ?_⟩
    simp only [Act.put, Z1, Z2, Z3]
    refine Held.tk (v := .bool true) 47 (some 89) rfl (Held.y_eqb (a := rb) (b := rb) rfl rfl rfl (by cases rb <;> rfl) Tryd.underlying4) c0_11 ?_
    simp only [Act.put, Z1, Z2, Z3]
    refine Held.tk (v := .bool true) 48 (some 90) rfl (Held.y_pick rfl rfl rfl) c0_11 ?_
    simp only [Act.put, Z1, Z2, Z3]
    refine Held.tk (v := .bool true) 49 (some 91) rfl (Held.y_move rfl rfl) c0_11 ?_
    simp only [Act.put, Z1, Z2, Z3]
    refine Held.tk (v := .agg #[.int .i64 x, .int .i64 k, .int .i64 b, .int .i64 wk]) 50 (some 92) rfl (Held.y_load_blk (n := 4) rfl rfl Tryd.underlying23 rfl (by kernel_rfl) rfl (fun W hW => qp.after hW)) c0_11 ?_
    simp only [Act.put, Z1, Z2, Z3]
    refine Held.tk (v := .agg #[.int .i64 x, .int .i64 k, .int .i64 b, .int .i64 wk]) 52 (some 94) rfl (Held.y_load_blk (n := 4) rfl rfl Tryd.underlying23 rfl (by kernel_rfl) rfl (fun W hW => qp.after hW)) c0_11 ?_
    simp only [Act.put, Z1, Z2, Z3]
    refine Held.one 51 (by kernel_rfl) ?_
    refine Held.op_call 51 (some 93) 26 #[.agg #[.int .i64 x, .int .i64 k, .int .i64 b, .int .i64 wk]] rfl rfl rfl rfl (enters_of Tryd.func26 (by kernel_rfl) rfl) (by simp [Act.eval])
      (HL1.out _ (hT.below (bB.trans (c0_11.mono bB.size)) hTw)) ?_
    rintro e w12 ⟨A12, n12, c12, rfl, hm12, o12, b12⟩
    have c0_12 := c0_11.trans (b12.mono c0_11.size)
    have L12 : Lst kS w12 w12.heap.size A12 n12 xl := OwnL.lst o12 HXL.out.1
    clear o12 hm12
    refine ⟨_, rfl, c0_12, ?_⟩
    simp only [Act.put, Z1, Z2, Z3]
    refine Held.one 53 (by kernel_rfl) ?_
    refine Held.op_call 53 (some 95) 27 #[.agg #[.int .i64 x, .int .i64 k, .int .i64 b, .int .i64 wk]] rfl rfl rfl rfl (enters_of Tryd.func27 (by kernel_rfl) rfl) (by simp [Act.eval])
      (HL2.out _) ?_
    rintro e w13 ⟨A13, n13, c13, rfl, hm13, o13, b13⟩
    have c0_13 := c0_12.trans (b13.mono c0_12.size)
    have L13 : Lst kS w13 w13.heap.size A13 n13 xl := OwnL.lst o13 HXL.out.1
    clear o13 hm13
    refine ⟨_, rfl, c0_13, ?_⟩
    simp only [Act.put, Z1, Z2, Z3]
    refine Held.one 54 (by kernel_rfl) ?_
    refine Held.op_call 54 (some 96) 17 #[.slice A12 n12 c12, .slice A13 n13 c13] rfl rfl rfl rfl (enters_of Tryd.func17 (by kernel_rfl) rfl) (by simp [Act.eval])
      (plainS_same w12.heap.size w13.heap.size A12 A13 n12 n13 c12 c13 xl _ (L12.below b13) L13 b13.size (Nat.le_refl _) HXL.out.2) ?_
    rintro e w14 ⟨rfl, b14⟩
    have c0_14 := c0_13.trans (b14.mono c0_13.size)
    clear L12 L13
    refine ⟨_, rfl, c0_14, ?_⟩
    simp only [Act.put, Z1, Z2, Z3]
    refine Held.tk (v := .bool true) 55 (some 97) rfl (Held.y_pick rfl rfl rfl) c0_14 ?_
    simp only [Act.put, Z1, Z2, Z3]
    refine Held.tk (v := .bool true) 56 (some 8) rfl (Held.y_assign rfl rfl) c0_14 ?_
    simp only [Act.put, Z1, Z2, Z3]
    refine wpAnyH_done (by kernel_rfl) ?_ _
    have bz := bB.trans (c0_14.mono bB.size)
    go_wp2_with fail
    go_ret
    exact ⟨rfl, bz⟩
  · have htk := taskAt_ge (l := l) (by omega : ¬ n < 0) (by omega)
    rw [htk]
    have hdB : decide ((0 : Int) ≤ n) = true := decide_eq_true hpos
    have hno : ¬ n < (N : Int) := by omega
    have hnd : decide (n < (N : Int)) = false := decide_eq_false hno
    clear L6 hN'
    rw [show tkV (Option.getD (none : Option Tk) T0) = .agg #[.int .i64 0, .int .i64 0, .int .i64 0, .int .i64 0, .bool false] from rfl, show Option.isSome (none : Option Tk) = false from rfl]
    clear htk
    go_wp2_with (first
      | (refine wpList_alloc_blk (w := w6) rfl 34 rfl #[.int .i64 0, .int .i64 0, .int .i64 0, .int .i64 0, .bool false] (by kernel_rfl) ?_; intro u7 qu7 gu7 zu7)
      | (refine wpList_store_blk (w := u7) rfl 34 _ _ rfl (w6.heap.size) 5 rfl 34 _ #[.int .i64 0, .int .i64 0, .int .i64 0, .int .i64 0, .bool false] rfl qu7 (by kernel_rfl) rfl rfl (by kernel_rfl) ?_; intro u8 qu8 gu8 zu8; have b8 : Below w.heap.size w u8 := (bo6.grown gu7 bo6.size (by simp)).grown gu8 (Nat.le_trans bo6.size gu7.size) (fun r e => by injection e with e; have := bo6.size; omega); have qp8 := (q6.grown gu7 (by simp)).grown gu8 (by intro e; injection e with e; have := q6.lt; omega); have qs8 := (s6.grown gu7 (by simp)).grown gu8 (by intro e; injection e with e; have := s6.lt; omega))
      | (refine Held.wpList_run (w := u8) rfl (v := .bool true) (Sp.y_geq (S := fun _ => True) rfl rfl rfl hdB _ trivial) ?_)
      | (refine wpList_build_blk rfl 34 #[] rfl #[.int .i64 0, .int .i64 0, .int .i64 0, .int .i64 0, .bool false] (by kernel_rfl) ?_)
      | (refine wpList_alloc_blk (w := u8) rfl 34 rfl #[.int .i64 0, .int .i64 0, .int .i64 0, .int .i64 0, .bool false] (by kernel_rfl) ?_; intro u9 qu9 gu9 zu9)
      | (refine wpList_store_blk (w := u9) rfl 34 _ _ rfl (u8.heap.size) 5 rfl 34 _ #[.int .i64 0, .int .i64 0, .int .i64 0, .int .i64 0, .bool false] rfl qu9 (by kernel_rfl) rfl rfl (by kernel_rfl) ?_; intro wA qwA gwA zwA; have bA : Below w.heap.size w wA := (b8.grown gu9 b8.size (by simp)).grown gwA (Nat.le_trans b8.size gu9.size) (fun r e => by injection e with e; have := b8.size; omega); have qpA := (qp8.grown gu9 (by simp)).grown gwA (by intro e; injection e with e; have := qp8.lt; omega); have qsA := (qs8.grown gu9 (by simp)).grown gwA (by intro e; injection e with e; have := qs8.lt; omega); have qtA := (qu8.grown gu9 (by simp)).grown gwA (by intro e; injection e with e; have := qu8.lt; omega)))
    try rw [hnd]
    generalize w6.heap.size = gt at *
    generalize u8.heap.size = gw at *
    have qp := qpA
    have qs := qsA
    have qt := qtA
    have qw := qwA
    have bB := bA
    obtain ⟨wB, rfl⟩ : ∃ W, W = wA := ⟨_, rfl⟩
    clear qpA qsA qtA qwA bA qu8 qu9 gu7 gu8 gu9 gwA zu7 zu8 zu9 zwA qu7 b8 qp8 qs8 q6 s6 bo6 hz6
    refine wp_region_held (S := fun W => Below wB.heap.size wB W) (by kernel_rfl) ?_
    change wpAnyH _ _ _ _ _ _ _ _ wB.drew
    have c0_0 := (Below.refl wB.heap.size wB).drew
    refine Held.one 0 (by kernel_rfl) ?_
    refine Held.op_call 0 (some 42) 12 #[] rfl rfl rfl rfl (enters_of Tryd.func12 (by kernel_rfl) rfl) (by simp)
      (awake17_any _ (hT.below (bB.trans (c0_0.mono bB.size)) hTw)) ?_
    rintro e w1 ⟨rfl, b1⟩
    have c0_1 := c0_0.trans (b1.mono c0_0.size)
    refine ⟨_, rfl, c0_1, ?_⟩
    simp only [Act.put, Z1, Z2, Z3]
    refine Held.tk (v := .bool true) 1 (some 43) rfl (Held.y_move rfl rfl) c0_1 ?_
    simp only [Act.put, Z1, Z2, Z3]
    refine Held.tk (v := .bool false) 2 (some 44) rfl (Held.y_move rfl rfl) c0_1 ?_
    simp only [Act.put, Z1, Z2, Z3]
    refine Held.tk (v := .bool false) 3 (some 45) rfl (Held.y_move rfl rfl) c0_1 ?_
    simp only [Act.put, Z1, Z2, Z3]
    refine Held.tk (v := .bool true) 4 (some 46) rfl (Held.y_eqb (a := false) (b := false) rfl rfl rfl rfl Tryd.underlying4) c0_1 ?_
    simp only [Act.put, Z1, Z2, Z3]
    refine Held.tk (v := .bool true) 5 (some 47) rfl (Held.y_pick rfl rfl rfl) c0_1 ?_
    simp only [Act.put, Z1, Z2, Z3]
    refine Held.tk (v := .bool true) 6 (some 48) rfl (Held.y_move rfl rfl) c0_1 ?_
    simp only [Act.put, Z1, Z2, Z3]
    refine Held.tk (v := .agg #[.int .i64 0, .int .i64 0, .int .i64 0, .int .i64 0, .bool false]) 7 (some 49) rfl (Held.y_load_blk (n := 5) rfl rfl Tryd.underlying34 rfl (by kernel_rfl) rfl (fun W hW => qt.after hW)) c0_1 ?_
    simp only [Act.put, Z1, Z2, Z3]
    refine Held.tk (v := .agg #[.int .i64 0, .int .i64 0, .int .i64 0, .int .i64 0, .bool false]) 8 (some 50) rfl (Held.y_load_blk (n := 5) rfl rfl Tryd.underlying34 rfl (by kernel_rfl) rfl (fun W hW => qw.after hW)) c0_1 ?_
    simp only [Act.put, Z1, Z2, Z3]
    refine Held.tk (v := .bool true) 9 (some 51) rfl (y_eqT (a := ⟨0, 0, 0, 0, false⟩) (b := ⟨0, 0, 0, 0, false⟩) rfl rfl rfl (by simp)) c0_1 ?_
    simp only [Act.put, Z1, Z2, Z3]
    refine Held.tk (v := .bool true) 10 (some 52) rfl (Held.y_pick rfl rfl rfl) c0_1 ?_
    simp only [Act.put, Z1, Z2, Z3]
    refine Held.tk (v := .bool true) 11 (some 53) rfl (Held.y_move rfl rfl) c0_1 ?_
    simp only [Act.put, Z1, Z2, Z3]
    refine Held.tk (v := .agg #[.int .i64 x, .int .i64 k, .int .i64 b, .int .i64 wk]) 12 (some 54) rfl (Held.y_load_blk (n := 4) rfl rfl Tryd.underlying23 rfl (by kernel_rfl) rfl (fun W hW => qp.after hW)) c0_1 ?_
    simp only [Act.put, Z1, Z2, Z3]
    refine Held.tk (v := .int .i64 n) 13 (some 55) rfl (Held.y_move rfl rfl) c0_1 ?_
    simp only [Act.put, Z1, Z2, Z3]
    refine Held.tk (v := .agg #[.int .i64 x, .int .i64 k, .int .i64 b, .int .i64 wk]) 15 (some 57) rfl (Held.y_load_blk (n := 4) rfl rfl Tryd.underlying23 rfl (by kernel_rfl) rfl (fun W hW => qp.after hW)) c0_1 ?_
    simp only [Act.put, Z1, Z2, Z3]
    refine Held.tk (v := .int .i64 n) 16 (some 58) rfl (Held.y_move rfl rfl) c0_1 ?_
    simp only [Act.put, Z1, Z2, Z3]
    refine Held.one 14 (by kernel_rfl) ?_
    refine Held.op_call 14 (some 56) 18 #[.agg #[.int .i64 x, .int .i64 k, .int .i64 b, .int .i64 wk], .int .i64 n] rfl rfl rfl rfl (enters_of Tryd.func18 (by kernel_rfl) rfl) (by simp [Act.eval])
      (HR1.out _ (hT.below (bB.trans (c0_1.mono bB.size)) hTw)) ?_
    rintro e w2 ⟨A2, n2, c2, rfl, hm2, o2, b2⟩
    have c0_2 := c0_1.trans (b2.mono c0_1.size)
    have L2 : Lst kS w2 w2.heap.size A2 n2 xr := OwnL.lst o2 HXR.out.1
    clear o2 hm2
    refine ⟨_, rfl, c0_2, ?_⟩
    simp only [Act.put, Z1, Z2, Z3]
    refine Held.one 17 (by kernel_rfl) ?_
    refine Held.op_call 17 (some 59) 19 #[.agg #[.int .i64 x, .int .i64 k, .int .i64 b, .int .i64 wk], .int .i64 n] rfl rfl rfl rfl (enters_of Tryd.func19 (by kernel_rfl) rfl) (by simp [Act.eval])
      (HR2.out _) ?_
    rintro e w3 ⟨A3, n3, c3, rfl, hm3, o3, b3⟩
    have c0_3 := c0_2.trans (b3.mono c0_2.size)
    have L3 : Lst kS w3 w3.heap.size A3 n3 xr := OwnL.lst o3 HXR.out.1
    clear o3 hm3
    refine ⟨_, rfl, c0_3, ?_⟩
    simp only [Act.put, Z1, Z2, Z3]
    refine Held.one 18 (by kernel_rfl) ?_
    refine Held.op_call 18 (some 60) 17 #[.slice A2 n2 c2, .slice A3 n3 c3] rfl rfl rfl rfl (enters_of Tryd.func17 (by kernel_rfl) rfl) (by simp [Act.eval])
      (plainS_same w2.heap.size w3.heap.size A2 A3 n2 n3 c2 c3 xr _ (L2.below b3) L3 b3.size (Nat.le_refl _) HXR.out.2) ?_
    rintro e w4 ⟨rfl, b4⟩
    have c0_4 := c0_3.trans (b4.mono c0_3.size)
    clear L2 L3
    refine ⟨_, rfl, c0_4, ?_⟩
    simp only [Act.put, Z1, Z2, Z3]
    refine Held.tk (v := .bool true) 19 (some 61) rfl (Held.y_pick rfl rfl rfl) c0_4 ?_
    simp only [Act.put, Z1, Z2, Z3]
    refine Held.tk (v := .bool true) 20 (some 62) rfl (Held.y_move rfl rfl) c0_4 ?_
    simp only [Act.put, Z1, Z2, Z3]
    refine Held.tk (v := .agg #[.int .i64 x, .int .i64 k, .int .i64 b, .int .i64 wk]) 21 (some 63) rfl (Held.y_load_blk (n := 4) rfl rfl Tryd.underlying23 rfl (by kernel_rfl) rfl (fun W hW => qp.after hW)) c0_4 ?_
    simp only [Act.put, Z1, Z2, Z3]
    refine Held.tk (v := .int .i64 n) 22 (some 64) rfl (Held.y_move rfl rfl) c0_4 ?_
    simp only [Act.put, Z1, Z2, Z3]
    refine Held.tk (v := .agg #[.int .i64 x, .int .i64 k, .int .i64 b, .int .i64 wk]) 24 (some 66) rfl (Held.y_load_blk (n := 4) rfl rfl Tryd.underlying23 rfl (by kernel_rfl) rfl (fun W hW => qp.after hW)) c0_4 ?_
    simp only [Act.put, Z1, Z2, Z3]
    refine Held.tk (v := .int .i64 n) 25 (some 67) rfl (Held.y_move rfl rfl) c0_4 ?_
    simp only [Act.put, Z1, Z2, Z3]
    refine Held.one 23 (by kernel_rfl) ?_
    refine Held.op_call 23 (some 65) 20 #[.agg #[.int .i64 x, .int .i64 k, .int .i64 b, .int .i64 wk], .int .i64 n] rfl rfl rfl rfl (enters_of Tryd.func20 (by kernel_rfl) rfl) (by simp [Act.eval])
      (HW1.out _ (hT.below (bB.trans (c0_4.mono bB.size)) hTw)) ?_
    rintro e w5 ⟨A5, n5, c5, rfl, hm5, o5, b5⟩
    have c0_5 := c0_4.trans (b5.mono c0_4.size)
    have L5 : Lst kS w5 w5.heap.size A5 n5 xw := OwnL.lst o5 HXW.out.1
    clear o5 hm5
    refine ⟨_, rfl, c0_5, ?_⟩
    simp only [Act.put, Z1, Z2, Z3]
    refine Held.one 26 (by kernel_rfl) ?_
    refine Held.op_call 26 (some 68) 21 #[.agg #[.int .i64 x, .int .i64 k, .int .i64 b, .int .i64 wk], .int .i64 n] rfl rfl rfl rfl (enters_of Tryd.func21 (by kernel_rfl) rfl) (by simp [Act.eval])
      (HW2.out _) ?_
    rintro e w6 ⟨A6, n6, c6, rfl, hm6, o6, b6⟩
    have c0_6 := c0_5.trans (b6.mono c0_5.size)
    have L6 : Lst kS w6 w6.heap.size A6 n6 xw := OwnL.lst o6 HXW.out.1
    clear o6 hm6
    refine ⟨_, rfl, c0_6, ?_⟩
    simp only [Act.put, Z1, Z2, Z3]
    refine Held.one 27 (by kernel_rfl) ?_
    refine Held.op_call 27 (some 69) 17 #[.slice A5 n5 c5, .slice A6 n6 c6] rfl rfl rfl rfl (enters_of Tryd.func17 (by kernel_rfl) rfl) (by simp [Act.eval])
      (plainS_same w5.heap.size w6.heap.size A5 A6 n5 n6 c5 c6 xw _ (L5.below b6) L6 b6.size (Nat.le_refl _) HXW.out.2) ?_
    rintro e w7 ⟨rfl, b7⟩
    have c0_7 := c0_6.trans (b7.mono c0_6.size)
    clear L5 L6
    refine ⟨_, rfl, c0_7, ?_⟩
    simp only [Act.put, Z1, Z2, Z3]
    refine Held.tk (v := .bool true) 28 (some 70) rfl (Held.y_pick rfl rfl rfl) c0_7 ?_
    simp only [Act.put, Z1, Z2, Z3]
    refine Held.tk (v := .bool true) 29 (some 71) rfl (Held.y_move rfl rfl) c0_7 ?_
    simp only [Act.put, Z1, Z2, Z3]
    refine Held.tk (v := .agg #[.int .i64 x, .int .i64 k, .int .i64 b, .int .i64 wk]) 30 (some 72) rfl (Held.y_load_blk (n := 4) rfl rfl Tryd.underlying23 rfl (by kernel_rfl) rfl (fun W hW => qp.after hW)) c0_7 ?_
    simp only [Act.put, Z1, Z2, Z3]
    refine Held.tk (v := .agg #[.int .i64 ph, .int .i64 rd, .int .i64 ad]) 31 (some 73) rfl (Held.y_load_blk (n := 3) rfl rfl Tryd.underlying42 rfl (by kernel_rfl) rfl (fun W hW => qs.after hW)) c0_7 ?_
    simp only [Act.put, Z1, Z2, Z3]
    refine Held.tk (v := .agg #[.int .i64 x, .int .i64 k, .int .i64 b, .int .i64 wk]) 33 (some 75) rfl (Held.y_load_blk (n := 4) rfl rfl Tryd.underlying23 rfl (by kernel_rfl) rfl (fun W hW => qp.after hW)) c0_7 ?_
    simp only [Act.put, Z1, Z2, Z3]
    refine Held.tk (v := .agg #[.int .i64 ph, .int .i64 rd, .int .i64 ad]) 34 (some 76) rfl (Held.y_load_blk (n := 3) rfl rfl Tryd.underlying42 rfl (by kernel_rfl) rfl (fun W hW => qs.after hW)) c0_7 ?_
    simp only [Act.put, Z1, Z2, Z3]
    refine Held.one 32 (by kernel_rfl) ?_
    refine Held.op_call 32 (some 74) 22 #[.agg #[.int .i64 x, .int .i64 k, .int .i64 b, .int .i64 wk], .agg #[.int .i64 ph, .int .i64 rd, .int .i64 ad]] rfl rfl rfl rfl (enters_of Tryd.func22 (by kernel_rfl) rfl) (by simp [Act.eval])
      (HM1.out _ (hT.below (bB.trans (c0_7.mono bB.size)) hTw)) ?_
    rintro e w8 ⟨rfl, b8⟩
    have c0_8 := c0_7.trans (b8.mono c0_7.size)
    refine ⟨_, rfl, c0_8, ?_⟩
    simp only [Act.put, Z1, Z2, Z3]
    refine Held.one 35 (by kernel_rfl) ?_
    refine Held.op_call 35 (some 77) 23 #[.agg #[.int .i64 x, .int .i64 k, .int .i64 b, .int .i64 wk], .agg #[.int .i64 ph, .int .i64 rd, .int .i64 ad]] rfl rfl rfl rfl (enters_of Tryd.func23 (by kernel_rfl) rfl) (by simp [Act.eval])
      (HM2.out _) ?_
    rintro e w9 ⟨rfl, b9⟩
    have c0_9 := c0_8.trans (b9.mono c0_8.size)
    refine ⟨_, rfl, c0_9, ?_⟩
    simp only [Act.put, Z1, Z2, Z3]
    refine Held.tk (v := .bool true) 36 (some 78) rfl (Held.y_eqI rfl rfl rfl (by simp)) c0_9 ?_
    simp only [Act.put, Z1, Z2, Z3]
    refine Held.tk (v := .bool true) 37 (some 79) rfl (Held.y_pick rfl rfl rfl) c0_9 ?_
    simp only [Act.put, Z1, Z2, Z3]
    refine Held.tk (v := .bool true) 38 (some 80) rfl (Held.y_move rfl rfl) c0_9 ?_
    simp only [Act.put, Z1, Z2, Z3]
    refine Held.tk (v := .agg #[.int .i64 x, .int .i64 k, .int .i64 b, .int .i64 wk]) 39 (some 81) rfl (Held.y_load_blk (n := 4) rfl rfl Tryd.underlying23 rfl (by kernel_rfl) rfl (fun W hW => qp.after hW)) c0_9 ?_
    simp only [Act.put, Z1, Z2, Z3]
    refine Held.tk (v := .slice Ad nd cd) 40 (some 82) rfl (Held.y_move rfl rfl) c0_9 ?_
    simp only [Act.put, Z1, Z2, Z3]
    refine Held.tk (v := .int .i64 n) 41 (some 83) rfl (Held.y_move rfl rfl) c0_9 ?_
    simp only [Act.put, Z1, Z2, Z3]
    refine Held.tk (v := .agg #[.int .i64 x, .int .i64 k, .int .i64 b, .int .i64 wk]) 43 (some 85) rfl (Held.y_load_blk (n := 4) rfl rfl Tryd.underlying23 rfl (by kernel_rfl) rfl (fun W hW => qp.after hW)) c0_9 ?_
    simp only [Act.put, Z1, Z2, Z3]
    refine Held.tk (v := .slice Ad nd cd) 44 (some 86) rfl (Held.y_move rfl rfl) c0_9 ?_
    simp only [Act.put, Z1, Z2, Z3]
    refine Held.tk (v := .int .i64 n) 45 (some 87) rfl (Held.y_move rfl rfl) c0_9 ?_
    simp only [Act.put, Z1, Z2, Z3]
    refine Held.one 42 (by kernel_rfl) ?_
    refine Held.op_call 42 (some 84) 24 #[.agg #[.int .i64 x, .int .i64 k, .int .i64 b, .int .i64 wk], .slice Ad nd cd, .int .i64 n] rfl rfl rfl rfl (enters_of Tryd.func24 (by kernel_rfl) rfl) (by simp [Act.eval])
      (HY1.out _ (hT.below (bB.trans (c0_9.mono bB.size)) hTw) (hd.below (bB.trans (c0_9.mono bB.size))) (bB.trans (c0_9.mono bB.size)).size) ?_
    rintro e w10 ⟨rfl, b10⟩
    have c0_10 := c0_9.trans (b10.mono c0_9.size)
    refine ⟨_, rfl, c0_10, ?_⟩
    simp only [Act.put, Z1, Z2, Z3]
    refine Held.one 46 (by kernel_rfl) ?_
    refine Held.op_call 46 (some 88) 25 #[.agg #[.int .i64 x, .int .i64 k, .int .i64 b, .int .i64 wk], .slice Ad nd cd, .int .i64 n] rfl rfl rfl rfl (enters_of Tryd.func25 (by kernel_rfl) rfl) (by simp [Act.eval])
      (HY2.out _ (hd.below (bB.trans (c0_10.mono bB.size))) (bB.trans (c0_10.mono bB.size)).size) ?_
    rintro e w11 ⟨rfl, b11⟩
    have c0_11 := c0_10.trans (b11.mono c0_10.size)
    refine ⟨_, rfl, c0_11, ?_⟩
    simp only [Act.put, Z1, Z2, Z3]
    refine Held.tk (v := .bool true) 47 (some 89) rfl (Held.y_eqb (a := rb) (b := rb) rfl rfl rfl (by cases rb <;> rfl) Tryd.underlying4) c0_11 ?_
    simp only [Act.put, Z1, Z2, Z3]
    refine Held.tk (v := .bool true) 48 (some 90) rfl (Held.y_pick rfl rfl rfl) c0_11 ?_
    simp only [Act.put, Z1, Z2, Z3]
    refine Held.tk (v := .bool true) 49 (some 91) rfl (Held.y_move rfl rfl) c0_11 ?_
    simp only [Act.put, Z1, Z2, Z3]
    refine Held.tk (v := .agg #[.int .i64 x, .int .i64 k, .int .i64 b, .int .i64 wk]) 50 (some 92) rfl (Held.y_load_blk (n := 4) rfl rfl Tryd.underlying23 rfl (by kernel_rfl) rfl (fun W hW => qp.after hW)) c0_11 ?_
    simp only [Act.put, Z1, Z2, Z3]
    refine Held.tk (v := .agg #[.int .i64 x, .int .i64 k, .int .i64 b, .int .i64 wk]) 52 (some 94) rfl (Held.y_load_blk (n := 4) rfl rfl Tryd.underlying23 rfl (by kernel_rfl) rfl (fun W hW => qp.after hW)) c0_11 ?_
    simp only [Act.put, Z1, Z2, Z3]
    refine Held.one 51 (by kernel_rfl) ?_
    refine Held.op_call 51 (some 93) 26 #[.agg #[.int .i64 x, .int .i64 k, .int .i64 b, .int .i64 wk]] rfl rfl rfl rfl (enters_of Tryd.func26 (by kernel_rfl) rfl) (by simp [Act.eval])
      (HL1.out _ (hT.below (bB.trans (c0_11.mono bB.size)) hTw)) ?_
    rintro e w12 ⟨A12, n12, c12, rfl, hm12, o12, b12⟩
    have c0_12 := c0_11.trans (b12.mono c0_11.size)
    have L12 : Lst kS w12 w12.heap.size A12 n12 xl := OwnL.lst o12 HXL.out.1
    clear o12 hm12
    refine ⟨_, rfl, c0_12, ?_⟩
    simp only [Act.put, Z1, Z2, Z3]
    refine Held.one 53 (by kernel_rfl) ?_
    refine Held.op_call 53 (some 95) 27 #[.agg #[.int .i64 x, .int .i64 k, .int .i64 b, .int .i64 wk]] rfl rfl rfl rfl (enters_of Tryd.func27 (by kernel_rfl) rfl) (by simp [Act.eval])
      (HL2.out _) ?_
    rintro e w13 ⟨A13, n13, c13, rfl, hm13, o13, b13⟩
    have c0_13 := c0_12.trans (b13.mono c0_12.size)
    have L13 : Lst kS w13 w13.heap.size A13 n13 xl := OwnL.lst o13 HXL.out.1
    clear o13 hm13
    refine ⟨_, rfl, c0_13, ?_⟩
    simp only [Act.put, Z1, Z2, Z3]
    refine Held.one 54 (by kernel_rfl) ?_
    refine Held.op_call 54 (some 96) 17 #[.slice A12 n12 c12, .slice A13 n13 c13] rfl rfl rfl rfl (enters_of Tryd.func17 (by kernel_rfl) rfl) (by simp [Act.eval])
      (plainS_same w12.heap.size w13.heap.size A12 A13 n12 n13 c12 c13 xl _ (L12.below b13) L13 b13.size (Nat.le_refl _) HXL.out.2) ?_
    rintro e w14 ⟨rfl, b14⟩
    have c0_14 := c0_13.trans (b14.mono c0_13.size)
    clear L12 L13
    refine ⟨_, rfl, c0_14, ?_⟩
    simp only [Act.put, Z1, Z2, Z3]
    refine Held.tk (v := .bool true) 55 (some 97) rfl (Held.y_pick rfl rfl rfl) c0_14 ?_
    simp only [Act.put, Z1, Z2, Z3]
    refine Held.tk (v := .bool true) 56 (some 8) rfl (Held.y_assign rfl rfl) c0_14 ?_
    simp only [Act.put, Z1, Z2, Z3]
    refine wpAnyH_done (by kernel_rfl) ?_ _
    have bz := bB.trans (c0_14.mono bB.size)
    go_wp2_with fail
    go_ret
    exact ⟨rfl, bz⟩
  · obtain ⟨t, ht⟩ : ∃ t, l[i]? = some t := ⟨_, List.getElem?_eq_getElem (by omega)⟩
    have htk := taskAt_some ht rfl
    rw [htk]
    have hge : l.getD i T0 = t := by rw [List.getD_eq_getElem?_getD, ht]; rfl
    obtain ⟨bl, off, rfl, hbl, hx⟩ := L6.at_ hlt
    have hx : w6.rangeAt bl (off + i * 5) (l.getD i T0).cells := hx
    rw [hge] at hx
    obtain ⟨kd, tr, ta, tb, up⟩ := t
    have hx : w6.rangeAt bl (off + i * 5) [.int .i64 kd, .int .i64 tr, .int .i64 ta, .int .i64 tb, .bool up] := hx
    have hlt' : (i : Int) < (N : Int) := by omega
    have hi0 : (0 : Int) ≤ (i : Int) := by omega
    have hdB : decide ((0 : Int) ≤ (i : Int)) = true := decide_eq_true hi0
    have hnd : decide ((i : Int) < (N : Int)) = true := decide_eq_true hlt'
    have hbl6 : bl < w6.heap.size := by omega
    clear L6 hN' hge ht hbl
    rw [show tkV (Option.getD (some (⟨kd, tr, ta, tb, up⟩ : Tk)) T0) = .agg #[.int .i64 kd, .int .i64 tr, .int .i64 ta, .int .i64 tb, .bool up] from rfl, show Option.isSome (some (⟨kd, tr, ta, tb, up⟩ : Tk)) = true from rfl]
    clear htk
    go_wp2_with (first
      | (refine wpList_alloc_blk (w := w6) rfl 34 rfl #[.int .i64 0, .int .i64 0, .int .i64 0, .int .i64 0, .bool false] (by kernel_rfl) ?_; intro u7 qu7 gu7 zu7)
      | (refine wpList_store_blk (w := u7) rfl 34 _ _ rfl (w6.heap.size) 5 rfl 34 _ #[.int .i64 kd, .int .i64 tr, .int .i64 ta, .int .i64 tb, .bool up] rfl qu7 (by kernel_rfl) rfl rfl (by kernel_rfl) ?_; intro u8 qu8 gu8 zu8; have b8 : Below w.heap.size w u8 := (bo6.grown gu7 bo6.size (by simp)).grown gu8 (Nat.le_trans bo6.size gu7.size) (fun r e => by injection e with e; have := bo6.size; omega); have qp8 := (q6.grown gu7 (by simp)).grown gu8 (by intro e; injection e with e; have := q6.lt; omega); have qs8 := (s6.grown gu7 (by simp)).grown gu8 (by intro e; injection e with e; have := s6.lt; omega); have b68 : Below w6.heap.size w6 u8 := ((Below.refl _ w6).grown gu7 (Nat.le_refl _) (by simp)).grown gu8 gu7.size (fun r e => by cases e; exact Nat.le_refl _))
      | (refine Held.wpList_run (w := u8) rfl (v := .bool true) (Sp.y_geq (S := fun _ => True) rfl rfl rfl hdB _ trivial) ?_)
      | (refine wpList_build_blk rfl 34 #[] rfl #[.int .i64 0, .int .i64 0, .int .i64 0, .int .i64 0, .bool false] (by kernel_rfl) ?_)
      | (refine wpList_alloc_blk (w := u8) rfl 34 rfl #[.int .i64 0, .int .i64 0, .int .i64 0, .int .i64 0, .bool false] (by kernel_rfl) ?_; intro u9 qu9 gu9 zu9)
      | (refine wpList_store_blk (w := u9) rfl 34 _ _ rfl (u8.heap.size) 5 rfl 34 _ #[.int .i64 0, .int .i64 0, .int .i64 0, .int .i64 0, .bool false] rfl qu9 (by kernel_rfl) rfl rfl (by kernel_rfl) ?_; intro wA qwA gwA zwA; have bA : Below w.heap.size w wA := (b8.grown gu9 b8.size (by simp)).grown gwA (Nat.le_trans b8.size gu9.size) (fun r e => by injection e with e; have := b8.size; omega); have qpA := (qp8.grown gu9 (by simp)).grown gwA (by intro e; injection e with e; have := qp8.lt; omega); have qsA := (qs8.grown gu9 (by simp)).grown gwA (by intro e; injection e with e; have := qs8.lt; omega); have qtA := (qu8.grown gu9 (by simp)).grown gwA (by intro e; injection e with e; have := qu8.lt; omega); have b6A : Below w6.heap.size w6 wA := (b68.grown gu9 b68.size (by simp)).grown gwA (Nat.le_trans b68.size gu9.size) (fun r e => by injection e with e; have := b68.size; omega); have hxA : wA.rangeAt bl (off + i * 5) [.int .i64 kd, .int .i64 tr, .int .i64 ta, .int .i64 tb, .bool up] := range_below hx b6A hbl6)
      | (refine wpList_load_mid (w := wA) rfl 34 _ rfl bl (off + i * 5) rfl [.int .i64 kd, .int .i64 tr, .int .i64 ta, .int .i64 tb, .bool up] _ hxA Tryd.underlying34 rfl (by kernel_rfl) ?_)
      | (refine wpList_store_blk (w := wA) rfl 34 _ _ rfl (u8.heap.size) 5 rfl 34 _ #[.int .i64 kd, .int .i64 tr, .int .i64 ta, .int .i64 tb, .bool up] rfl qwA (by kernel_rfl) rfl rfl (by kernel_rfl) ?_; intro wB qwB gwB zwB; have bB : Below w.heap.size w wB := bA.grown gwB bA.size (fun r e => by injection e with e; have := b8.size; omega); have qpB := qpA.grown gwB (by intro e; injection e with e; have := qp8.lt; omega); have qsB := qsA.grown gwB (by intro e; injection e with e; have := qs8.lt; omega); have qtB := qtA.grown gwB (by intro e; injection e with e; have := qu8.lt; omega)))
    try rw [hnd]
    generalize w6.heap.size = gt at *
    generalize u8.heap.size = gw at *
    have qp := qpB
    have qs := qsB
    have qt := qtB
    have qw := qwB
    clear qpA qsA qtA qwA bA qpB qsB qtB qwB qu8 qu9 gu7 gu8 gu9 gwA gwB zu7 zu8 zu9 zwA zwB qu7 b8 qp8 qs8 q6 s6 bo6 hz6 hx hxA b6A b68
    refine wp_region_held (S := fun W => Below wB.heap.size wB W) (by kernel_rfl) ?_
    change wpAnyH _ _ _ _ _ _ _ _ wB.drew
    have c0_0 := (Below.refl wB.heap.size wB).drew
    refine Held.one 0 (by kernel_rfl) ?_
    refine Held.op_call 0 (some 42) 12 #[] rfl rfl rfl rfl (enters_of Tryd.func12 (by kernel_rfl) rfl) (by simp)
      (awake17_any _ (hT.below (bB.trans (c0_0.mono bB.size)) hTw)) ?_
    rintro e w1 ⟨rfl, b1⟩
    have c0_1 := c0_0.trans (b1.mono c0_0.size)
    refine ⟨_, rfl, c0_1, ?_⟩
    simp only [Act.put, Z1, Z2, Z3]
    refine Held.tk (v := .bool true) 1 (some 43) rfl (Held.y_move rfl rfl) c0_1 ?_
    simp only [Act.put, Z1, Z2, Z3]
    refine Held.tk (v := .bool true) 2 (some 44) rfl (Held.y_move rfl rfl) c0_1 ?_
    simp only [Act.put, Z1, Z2, Z3]
    refine Held.tk (v := .bool true) 3 (some 45) rfl (Held.y_move rfl rfl) c0_1 ?_
    simp only [Act.put, Z1, Z2, Z3]
    refine Held.tk (v := .bool true) 4 (some 46) rfl (Held.y_eqb (a := true) (b := true) rfl rfl rfl rfl Tryd.underlying4) c0_1 ?_
    simp only [Act.put, Z1, Z2, Z3]
    refine Held.tk (v := .bool true) 5 (some 47) rfl (Held.y_pick rfl rfl rfl) c0_1 ?_
    simp only [Act.put, Z1, Z2, Z3]
    refine Held.tk (v := .bool true) 6 (some 48) rfl (Held.y_move rfl rfl) c0_1 ?_
    simp only [Act.put, Z1, Z2, Z3]
    refine Held.tk (v := .agg #[.int .i64 kd, .int .i64 tr, .int .i64 ta, .int .i64 tb, .bool up]) 7 (some 49) rfl (Held.y_load_blk (n := 5) rfl rfl Tryd.underlying34 rfl (by kernel_rfl) rfl (fun W hW => qt.after hW)) c0_1 ?_
    simp only [Act.put, Z1, Z2, Z3]
    refine Held.tk (v := .agg #[.int .i64 kd, .int .i64 tr, .int .i64 ta, .int .i64 tb, .bool up]) 8 (some 50) rfl (Held.y_load_blk (n := 5) rfl rfl Tryd.underlying34 rfl (by kernel_rfl) rfl (fun W hW => qw.after hW)) c0_1 ?_
    simp only [Act.put, Z1, Z2, Z3]
    refine Held.tk (v := .bool true) 9 (some 51) rfl (y_eqT (a := ⟨kd, tr, ta, tb, up⟩) (b := ⟨kd, tr, ta, tb, up⟩) rfl rfl rfl (by simp)) c0_1 ?_
    simp only [Act.put, Z1, Z2, Z3]
    refine Held.tk (v := .bool true) 10 (some 52) rfl (Held.y_pick rfl rfl rfl) c0_1 ?_
    simp only [Act.put, Z1, Z2, Z3]
    refine Held.tk (v := .bool true) 11 (some 53) rfl (Held.y_move rfl rfl) c0_1 ?_
    simp only [Act.put, Z1, Z2, Z3]
    refine Held.tk (v := .agg #[.int .i64 x, .int .i64 k, .int .i64 b, .int .i64 wk]) 12 (some 54) rfl (Held.y_load_blk (n := 4) rfl rfl Tryd.underlying23 rfl (by kernel_rfl) rfl (fun W hW => qp.after hW)) c0_1 ?_
    simp only [Act.put, Z1, Z2, Z3]
    refine Held.tk (v := .int .i64 (i : Int)) 13 (some 55) rfl (Held.y_move rfl rfl) c0_1 ?_
    simp only [Act.put, Z1, Z2, Z3]
    refine Held.tk (v := .agg #[.int .i64 x, .int .i64 k, .int .i64 b, .int .i64 wk]) 15 (some 57) rfl (Held.y_load_blk (n := 4) rfl rfl Tryd.underlying23 rfl (by kernel_rfl) rfl (fun W hW => qp.after hW)) c0_1 ?_
    simp only [Act.put, Z1, Z2, Z3]
    refine Held.tk (v := .int .i64 (i : Int)) 16 (some 58) rfl (Held.y_move rfl rfl) c0_1 ?_
    simp only [Act.put, Z1, Z2, Z3]
    refine Held.one 14 (by kernel_rfl) ?_
    refine Held.op_call 14 (some 56) 18 #[.agg #[.int .i64 x, .int .i64 k, .int .i64 b, .int .i64 wk], .int .i64 (i : Int)] rfl rfl rfl rfl (enters_of Tryd.func18 (by kernel_rfl) rfl) (by simp [Act.eval])
      (HR1.out _ (hT.below (bB.trans (c0_1.mono bB.size)) hTw)) ?_
    rintro e w2 ⟨A2, n2, c2, rfl, hm2, o2, b2⟩
    have c0_2 := c0_1.trans (b2.mono c0_1.size)
    have L2 : Lst kS w2 w2.heap.size A2 n2 xr := OwnL.lst o2 HXR.out.1
    clear o2 hm2
    refine ⟨_, rfl, c0_2, ?_⟩
    simp only [Act.put, Z1, Z2, Z3]
    refine Held.one 17 (by kernel_rfl) ?_
    refine Held.op_call 17 (some 59) 19 #[.agg #[.int .i64 x, .int .i64 k, .int .i64 b, .int .i64 wk], .int .i64 (i : Int)] rfl rfl rfl rfl (enters_of Tryd.func19 (by kernel_rfl) rfl) (by simp [Act.eval])
      (HR2.out _) ?_
    rintro e w3 ⟨A3, n3, c3, rfl, hm3, o3, b3⟩
    have c0_3 := c0_2.trans (b3.mono c0_2.size)
    have L3 : Lst kS w3 w3.heap.size A3 n3 xr := OwnL.lst o3 HXR.out.1
    clear o3 hm3
    refine ⟨_, rfl, c0_3, ?_⟩
    simp only [Act.put, Z1, Z2, Z3]
    refine Held.one 18 (by kernel_rfl) ?_
    refine Held.op_call 18 (some 60) 17 #[.slice A2 n2 c2, .slice A3 n3 c3] rfl rfl rfl rfl (enters_of Tryd.func17 (by kernel_rfl) rfl) (by simp [Act.eval])
      (plainS_same w2.heap.size w3.heap.size A2 A3 n2 n3 c2 c3 xr _ (L2.below b3) L3 b3.size (Nat.le_refl _) HXR.out.2) ?_
    rintro e w4 ⟨rfl, b4⟩
    have c0_4 := c0_3.trans (b4.mono c0_3.size)
    clear L2 L3
    refine ⟨_, rfl, c0_4, ?_⟩
    simp only [Act.put, Z1, Z2, Z3]
    refine Held.tk (v := .bool true) 19 (some 61) rfl (Held.y_pick rfl rfl rfl) c0_4 ?_
    simp only [Act.put, Z1, Z2, Z3]
    refine Held.tk (v := .bool true) 20 (some 62) rfl (Held.y_move rfl rfl) c0_4 ?_
    simp only [Act.put, Z1, Z2, Z3]
    refine Held.tk (v := .agg #[.int .i64 x, .int .i64 k, .int .i64 b, .int .i64 wk]) 21 (some 63) rfl (Held.y_load_blk (n := 4) rfl rfl Tryd.underlying23 rfl (by kernel_rfl) rfl (fun W hW => qp.after hW)) c0_4 ?_
    simp only [Act.put, Z1, Z2, Z3]
    refine Held.tk (v := .int .i64 (i : Int)) 22 (some 64) rfl (Held.y_move rfl rfl) c0_4 ?_
    simp only [Act.put, Z1, Z2, Z3]
    refine Held.tk (v := .agg #[.int .i64 x, .int .i64 k, .int .i64 b, .int .i64 wk]) 24 (some 66) rfl (Held.y_load_blk (n := 4) rfl rfl Tryd.underlying23 rfl (by kernel_rfl) rfl (fun W hW => qp.after hW)) c0_4 ?_
    simp only [Act.put, Z1, Z2, Z3]
    refine Held.tk (v := .int .i64 (i : Int)) 25 (some 67) rfl (Held.y_move rfl rfl) c0_4 ?_
    simp only [Act.put, Z1, Z2, Z3]
    refine Held.one 23 (by kernel_rfl) ?_
    refine Held.op_call 23 (some 65) 20 #[.agg #[.int .i64 x, .int .i64 k, .int .i64 b, .int .i64 wk], .int .i64 (i : Int)] rfl rfl rfl rfl (enters_of Tryd.func20 (by kernel_rfl) rfl) (by simp [Act.eval])
      (HW1.out _ (hT.below (bB.trans (c0_4.mono bB.size)) hTw)) ?_
    rintro e w5 ⟨A5, n5, c5, rfl, hm5, o5, b5⟩
    have c0_5 := c0_4.trans (b5.mono c0_4.size)
    have L5 : Lst kS w5 w5.heap.size A5 n5 xw := OwnL.lst o5 HXW.out.1
    clear o5 hm5
    refine ⟨_, rfl, c0_5, ?_⟩
    simp only [Act.put, Z1, Z2, Z3]
    refine Held.one 26 (by kernel_rfl) ?_
    refine Held.op_call 26 (some 68) 21 #[.agg #[.int .i64 x, .int .i64 k, .int .i64 b, .int .i64 wk], .int .i64 (i : Int)] rfl rfl rfl rfl (enters_of Tryd.func21 (by kernel_rfl) rfl) (by simp [Act.eval])
      (HW2.out _) ?_
    rintro e w6 ⟨A6, n6, c6, rfl, hm6, o6, b6⟩
    have c0_6 := c0_5.trans (b6.mono c0_5.size)
    have L6 : Lst kS w6 w6.heap.size A6 n6 xw := OwnL.lst o6 HXW.out.1
    clear o6 hm6
    refine ⟨_, rfl, c0_6, ?_⟩
    simp only [Act.put, Z1, Z2, Z3]
    refine Held.one 27 (by kernel_rfl) ?_
    refine Held.op_call 27 (some 69) 17 #[.slice A5 n5 c5, .slice A6 n6 c6] rfl rfl rfl rfl (enters_of Tryd.func17 (by kernel_rfl) rfl) (by simp [Act.eval])
      (plainS_same w5.heap.size w6.heap.size A5 A6 n5 n6 c5 c6 xw _ (L5.below b6) L6 b6.size (Nat.le_refl _) HXW.out.2) ?_
    rintro e w7 ⟨rfl, b7⟩
    have c0_7 := c0_6.trans (b7.mono c0_6.size)
    clear L5 L6
    refine ⟨_, rfl, c0_7, ?_⟩
    simp only [Act.put, Z1, Z2, Z3]
    refine Held.tk (v := .bool true) 28 (some 70) rfl (Held.y_pick rfl rfl rfl) c0_7 ?_
    simp only [Act.put, Z1, Z2, Z3]
    refine Held.tk (v := .bool true) 29 (some 71) rfl (Held.y_move rfl rfl) c0_7 ?_
    simp only [Act.put, Z1, Z2, Z3]
    refine Held.tk (v := .agg #[.int .i64 x, .int .i64 k, .int .i64 b, .int .i64 wk]) 30 (some 72) rfl (Held.y_load_blk (n := 4) rfl rfl Tryd.underlying23 rfl (by kernel_rfl) rfl (fun W hW => qp.after hW)) c0_7 ?_
    simp only [Act.put, Z1, Z2, Z3]
    refine Held.tk (v := .agg #[.int .i64 ph, .int .i64 rd, .int .i64 ad]) 31 (some 73) rfl (Held.y_load_blk (n := 3) rfl rfl Tryd.underlying42 rfl (by kernel_rfl) rfl (fun W hW => qs.after hW)) c0_7 ?_
    simp only [Act.put, Z1, Z2, Z3]
    refine Held.tk (v := .agg #[.int .i64 x, .int .i64 k, .int .i64 b, .int .i64 wk]) 33 (some 75) rfl (Held.y_load_blk (n := 4) rfl rfl Tryd.underlying23 rfl (by kernel_rfl) rfl (fun W hW => qp.after hW)) c0_7 ?_
    simp only [Act.put, Z1, Z2, Z3]
    refine Held.tk (v := .agg #[.int .i64 ph, .int .i64 rd, .int .i64 ad]) 34 (some 76) rfl (Held.y_load_blk (n := 3) rfl rfl Tryd.underlying42 rfl (by kernel_rfl) rfl (fun W hW => qs.after hW)) c0_7 ?_
    simp only [Act.put, Z1, Z2, Z3]
    refine Held.one 32 (by kernel_rfl) ?_
    refine Held.op_call 32 (some 74) 22 #[.agg #[.int .i64 x, .int .i64 k, .int .i64 b, .int .i64 wk], .agg #[.int .i64 ph, .int .i64 rd, .int .i64 ad]] rfl rfl rfl rfl (enters_of Tryd.func22 (by kernel_rfl) rfl) (by simp [Act.eval])
      (HM1.out _ (hT.below (bB.trans (c0_7.mono bB.size)) hTw)) ?_
    rintro e w8 ⟨rfl, b8⟩
    have c0_8 := c0_7.trans (b8.mono c0_7.size)
    refine ⟨_, rfl, c0_8, ?_⟩
    simp only [Act.put, Z1, Z2, Z3]
    refine Held.one 35 (by kernel_rfl) ?_
    refine Held.op_call 35 (some 77) 23 #[.agg #[.int .i64 x, .int .i64 k, .int .i64 b, .int .i64 wk], .agg #[.int .i64 ph, .int .i64 rd, .int .i64 ad]] rfl rfl rfl rfl (enters_of Tryd.func23 (by kernel_rfl) rfl) (by simp [Act.eval])
      (HM2.out _) ?_
    rintro e w9 ⟨rfl, b9⟩
    have c0_9 := c0_8.trans (b9.mono c0_8.size)
    refine ⟨_, rfl, c0_9, ?_⟩
    simp only [Act.put, Z1, Z2, Z3]
    refine Held.tk (v := .bool true) 36 (some 78) rfl (Held.y_eqI rfl rfl rfl (by simp)) c0_9 ?_
    simp only [Act.put, Z1, Z2, Z3]
    refine Held.tk (v := .bool true) 37 (some 79) rfl (Held.y_pick rfl rfl rfl) c0_9 ?_
    simp only [Act.put, Z1, Z2, Z3]
    refine Held.tk (v := .bool true) 38 (some 80) rfl (Held.y_move rfl rfl) c0_9 ?_
    simp only [Act.put, Z1, Z2, Z3]
    refine Held.tk (v := .agg #[.int .i64 x, .int .i64 k, .int .i64 b, .int .i64 wk]) 39 (some 81) rfl (Held.y_load_blk (n := 4) rfl rfl Tryd.underlying23 rfl (by kernel_rfl) rfl (fun W hW => qp.after hW)) c0_9 ?_
    simp only [Act.put, Z1, Z2, Z3]
    refine Held.tk (v := .slice Ad nd cd) 40 (some 82) rfl (Held.y_move rfl rfl) c0_9 ?_
    simp only [Act.put, Z1, Z2, Z3]
    refine Held.tk (v := .int .i64 (i : Int)) 41 (some 83) rfl (Held.y_move rfl rfl) c0_9 ?_
    simp only [Act.put, Z1, Z2, Z3]
    refine Held.tk (v := .agg #[.int .i64 x, .int .i64 k, .int .i64 b, .int .i64 wk]) 43 (some 85) rfl (Held.y_load_blk (n := 4) rfl rfl Tryd.underlying23 rfl (by kernel_rfl) rfl (fun W hW => qp.after hW)) c0_9 ?_
    simp only [Act.put, Z1, Z2, Z3]
    refine Held.tk (v := .slice Ad nd cd) 44 (some 86) rfl (Held.y_move rfl rfl) c0_9 ?_
    simp only [Act.put, Z1, Z2, Z3]
    refine Held.tk (v := .int .i64 (i : Int)) 45 (some 87) rfl (Held.y_move rfl rfl) c0_9 ?_
    simp only [Act.put, Z1, Z2, Z3]
    refine Held.one 42 (by kernel_rfl) ?_
    refine Held.op_call 42 (some 84) 24 #[.agg #[.int .i64 x, .int .i64 k, .int .i64 b, .int .i64 wk], .slice Ad nd cd, .int .i64 (i : Int)] rfl rfl rfl rfl (enters_of Tryd.func24 (by kernel_rfl) rfl) (by simp [Act.eval])
      (HY1.out _ (hT.below (bB.trans (c0_9.mono bB.size)) hTw) (hd.below (bB.trans (c0_9.mono bB.size))) (bB.trans (c0_9.mono bB.size)).size) ?_
    rintro e w10 ⟨rfl, b10⟩
    have c0_10 := c0_9.trans (b10.mono c0_9.size)
    refine ⟨_, rfl, c0_10, ?_⟩
    simp only [Act.put, Z1, Z2, Z3]
    refine Held.one 46 (by kernel_rfl) ?_
    refine Held.op_call 46 (some 88) 25 #[.agg #[.int .i64 x, .int .i64 k, .int .i64 b, .int .i64 wk], .slice Ad nd cd, .int .i64 (i : Int)] rfl rfl rfl rfl (enters_of Tryd.func25 (by kernel_rfl) rfl) (by simp [Act.eval])
      (HY2.out _ (hd.below (bB.trans (c0_10.mono bB.size))) (bB.trans (c0_10.mono bB.size)).size) ?_
    rintro e w11 ⟨rfl, b11⟩
    have c0_11 := c0_10.trans (b11.mono c0_10.size)
    refine ⟨_, rfl, c0_11, ?_⟩
    simp only [Act.put, Z1, Z2, Z3]
    refine Held.tk (v := .bool true) 47 (some 89) rfl (Held.y_eqb (a := rb) (b := rb) rfl rfl rfl (by cases rb <;> rfl) Tryd.underlying4) c0_11 ?_
    simp only [Act.put, Z1, Z2, Z3]
    refine Held.tk (v := .bool true) 48 (some 90) rfl (Held.y_pick rfl rfl rfl) c0_11 ?_
    simp only [Act.put, Z1, Z2, Z3]
    refine Held.tk (v := .bool true) 49 (some 91) rfl (Held.y_move rfl rfl) c0_11 ?_
    simp only [Act.put, Z1, Z2, Z3]
    refine Held.tk (v := .agg #[.int .i64 x, .int .i64 k, .int .i64 b, .int .i64 wk]) 50 (some 92) rfl (Held.y_load_blk (n := 4) rfl rfl Tryd.underlying23 rfl (by kernel_rfl) rfl (fun W hW => qp.after hW)) c0_11 ?_
    simp only [Act.put, Z1, Z2, Z3]
    refine Held.tk (v := .agg #[.int .i64 x, .int .i64 k, .int .i64 b, .int .i64 wk]) 52 (some 94) rfl (Held.y_load_blk (n := 4) rfl rfl Tryd.underlying23 rfl (by kernel_rfl) rfl (fun W hW => qp.after hW)) c0_11 ?_
    simp only [Act.put, Z1, Z2, Z3]
    refine Held.one 51 (by kernel_rfl) ?_
    refine Held.op_call 51 (some 93) 26 #[.agg #[.int .i64 x, .int .i64 k, .int .i64 b, .int .i64 wk]] rfl rfl rfl rfl (enters_of Tryd.func26 (by kernel_rfl) rfl) (by simp [Act.eval])
      (HL1.out _ (hT.below (bB.trans (c0_11.mono bB.size)) hTw)) ?_
    rintro e w12 ⟨A12, n12, c12, rfl, hm12, o12, b12⟩
    have c0_12 := c0_11.trans (b12.mono c0_11.size)
    have L12 : Lst kS w12 w12.heap.size A12 n12 xl := OwnL.lst o12 HXL.out.1
    clear o12 hm12
    refine ⟨_, rfl, c0_12, ?_⟩
    simp only [Act.put, Z1, Z2, Z3]
    refine Held.one 53 (by kernel_rfl) ?_
    refine Held.op_call 53 (some 95) 27 #[.agg #[.int .i64 x, .int .i64 k, .int .i64 b, .int .i64 wk]] rfl rfl rfl rfl (enters_of Tryd.func27 (by kernel_rfl) rfl) (by simp [Act.eval])
      (HL2.out _) ?_
    rintro e w13 ⟨A13, n13, c13, rfl, hm13, o13, b13⟩
    have c0_13 := c0_12.trans (b13.mono c0_12.size)
    have L13 : Lst kS w13 w13.heap.size A13 n13 xl := OwnL.lst o13 HXL.out.1
    clear o13 hm13
    refine ⟨_, rfl, c0_13, ?_⟩
    simp only [Act.put, Z1, Z2, Z3]
    refine Held.one 54 (by kernel_rfl) ?_
    refine Held.op_call 54 (some 96) 17 #[.slice A12 n12 c12, .slice A13 n13 c13] rfl rfl rfl rfl (enters_of Tryd.func17 (by kernel_rfl) rfl) (by simp [Act.eval])
      (plainS_same w12.heap.size w13.heap.size A12 A13 n12 n13 c12 c13 xl _ (L12.below b13) L13 b13.size (Nat.le_refl _) HXL.out.2) ?_
    rintro e w14 ⟨rfl, b14⟩
    have c0_14 := c0_13.trans (b14.mono c0_13.size)
    clear L12 L13
    refine ⟨_, rfl, c0_14, ?_⟩
    simp only [Act.put, Z1, Z2, Z3]
    refine Held.tk (v := .bool true) 55 (some 97) rfl (Held.y_pick rfl rfl rfl) c0_14 ?_
    simp only [Act.put, Z1, Z2, Z3]
    refine Held.tk (v := .bool true) 56 (some 8) rfl (Held.y_assign rfl rfl) c0_14 ?_
    simp only [Act.put, Z1, Z2, Z3]
    refine wpAnyH_done (by kernel_rfl) ?_ _
    have bz := bB.trans (c0_14.mono bB.size)
    go_wp2_with fail
    go_ret
    exact ⟨rfl, bz⟩
theorem walk (pr0 pk0 pb0 pw0 : Int) (a1 : Int) (sp2 sq2 sa2 : Int) (A3 : Option Addr) (m3 c3 : Nat) (bs3 : List Bool) (w : World) (wr0 : (Lit.int .i64 pr0).wf = true) (wk0 : (Lit.int .i64 pk0).wf = true) (wb0 : (Lit.int .i64 pb0).wf = true) (ww0 : (Lit.int .i64 pw0).wf = true) (w1 : (Lit.int .i64 a1).wf = true) (wsp2 : (Lit.int .i64 sp2).wf = true) (wsq2 : (Lit.int .i64 sq2).wf = true) (wsa2 : (Lit.int .i64 sa2).wf = true) (hb3 : Sl.Lst Vm.kB w w.heap.size A3 m3 bs3 ∧ m3 ≤ c3 ∧ c3 ≤ maxLen) (hL : laidMetH Tryd.prog laidList w) :
    Calls Tryd.prog 4 #[.agg #[.int .i64 pr0, .int .i64 pk0, .int .i64 pb0, .int .i64 pw0], .int .i64 a1, .agg #[.int .i64 sp2, .int .i64 sq2, .int .i64 sa2], .slice A3 m3 c3] w fun e w' => e = .returned (.bool true) ∧ Below w.heap.size w w' := by
  exact (fun _ _ _ _ _ _ => start pr0 pk0 pb0 pw0 a1 sp2 sq2 sa2 A3 m3 c3 bs3 w (wf_says wk0).1 (wf_says wk0).2 (wf_says w1).1 (wf_says w1).2 (Bi.bits_of_laid hL) hb3.1) wr0 wb0 ww0 wsp2 wsq2 wsa2
set_option maxRecDepth 100000 in
theorem door_met (os : Os) (args : Array Value) : laidMetH Tryd.prog laidList ((World.doorLaid Tryd.prog 400 os).forCall (fun _ _ => 0) ⟨#[], args, []⟩).memory :=
  laidMetH_of_parts3 (fuel := 8) (laidMet_of_run' 8 (by kernel_rfl) (by kernel_rfl)) (by kernel_rfl) (by kernel_rfl)
set_option maxRecDepth 100000 in
theorem lifted (os : Os) (started : os.Started) (H : Type) (enc : TypeId × Value → H) :
    ReturnsInHanded {} Tryd.checked os 4 .any (fun w args => (Rows.shapeSpotsSpec.pre enc Tryd.prog Tryd.f4 [] false w args ∧ laidMetH Tryd.prog laidList w) ∧ sizedMet enc Tryd.prog Tryd.f4 (OpenSpec.ofChange Rows.shapeSpotsSpec) false w args)
      (Rows.shapeSpotsSpec.post enc Tryd.prog Tryd.f4 false true false false) := by
  refine returnsInHanded_of_change_and (C := Tryd.checked) (X := fun w _ => laidMetH Tryd.prog laidList w) (fun _ _ _ hh h => h.of_heap hh) own started (by kernel_rfl) Tryd.func4
    (ChangeSpec.witness_shaped (enc := enc) (C := Tryd.checked) (os := os) (X := fun w _ => laidMetH Tryd.prog laidList w) false (World.doorLaid Tryd.prog 400 os) #[.agg #[.int .i64 0, .int .i64 0, .int .i64 0, .int .i64 0], .int .i64 0, .agg #[.int .i64 0, .int .i64 0, .int .i64 0], .slice none 0 0] 8 rfl (World.shaped_of_RefB (by kernel_rfl) (by kernel_rfl)) (by kernel_rfl) (by kernel_rfl) (by kernel_rfl) (door_met os _)) ?_
  intro W base args ds gs before hval0 hW _ _ hL _
  have hval : ∀ (j : Nat) t v, Tryd.f4.params[j]? = some t → args[j]? = some v → Value.okWide Tryd.prog W .any base t v := hval0
  have hW' := hW
  obtain ⟨p, q, hA0, hV, rfl, hfz, hnd⟩ := hW
  have hA : DataW.TrodAll enc Tryd.prog W 0 (fun _ => true) true Tryd.f4.params.toList args.toList ds p := hA0
  rw [Tryd.params4] at hA hval
  obtain ⟨v0, vs0, d0, ds0, p0, q0, hargs, rfl, rfl, h0, r0⟩ := trodAll_cons hA
  obtain ⟨v1, vs1, d1, ds1, p1, q1, rfl, rfl, rfl, h1, r1⟩ := trodAll_cons r0
  obtain ⟨v2, vs2, d2, ds2, p2, q2, rfl, rfl, rfl, h2, r2⟩ := trodAll_cons r1
  obtain ⟨v3, vs3, d3, ds3, p3, q3, rfl, rfl, rfl, h3, r3⟩ := trodAll_cons r2
  obtain ⟨rfl, rfl, rfl⟩ := trodAll_nil r3
  obtain rfl : args = #[v0, v1, v2, v3] := by cases args; simp_all
  obtain ⟨rfl, rfl⟩ := trodVars_none hV
  have kk0 := h0
  have lt0 : ∀ x ∈ p0, x.block < W.heap.size := by obtain ⟨m, hm⟩ := kk0; exact DataW.trod_lt m _ _ _ hm
  obtain ⟨pr0, pk0, pb0, pw0, rfl, wr0, wk0, wb0, ww0⟩ := Sp.open_params (hval 0 23 v0 rfl rfl) h0
  obtain ⟨a1, rfl, rfl, rfl, w1⟩ := open_int Tryd.underlying3 (hval 1 3 v1 rfl rfl) h1
  have kk2 := h2
  have lt2 : ∀ x ∈ p2, x.block < W.heap.size := by obtain ⟨m, hm⟩ := kk2; exact DataW.trod_lt m _ _ _ hm
  obtain ⟨sp2, sq2, sa2, rfl, wsp2, wsq2, wsa2⟩ := Sh.open_spot (hval 2 42 v2 rfl rfl) h2
  obtain ⟨A3, m3, c3, rfl⟩ := okWide_slice Tryd.underlying43 (hval 3 43 v3 rfl rfl)
  have kk3 := h3
  have lt3 : ∀ x ∈ p3, x.block < W.heap.size := by obtain ⟨m, hm⟩ := kk3; exact DataW.trod_lt m _ _ _ hm
  obtain ⟨bs3, hb3⟩ := Vm.open_lstT (k := Vm.kB) Tryd.underlying43 (by kernel_rfl) Vm.open_truth h3
  clear hA0 hval0
  refine (walk pr0 pk0 pb0 pw0 a1 sp2 sq2 sa2 A3 m3 c3 bs3 W wr0 wk0 wb0 ww0 w1 wsp2 wsq2 wsa2 hb3 hL).mono fun e W' ⟨he, bel⟩ => ?_
  subst he
  exact ⟨_, rfl, _, _, _, [], _, [], hW', trodAll_mk1 (shut_bool Tryd.underlying4 _), (trodAll_cons_mk (Below.trod laidOut (by kernel_rfl) (of_decide_eq_true (by kernel_rfl)) kk0 bel lt0) (trodAll_cons_mk (shut_int Tryd.underlying3 w1) (trodAll_cons_mk (Below.trod laidOut (by kernel_rfl) (of_decide_eq_true (by kernel_rfl)) kk2 bel lt2) (trodAll_cons_mk (Below.trod laidOut (by kernel_rfl) (of_decide_eq_true (by kernel_rfl)) kk3 bel lt3) trodAll_mk0)))), rfl, bel.frame _, fun h => by cases h⟩
theorem over : Rows.shapeSpotsRow.holds Tryd.pinned (OpenSpec.ofChange Rows.shapeSpotsSpec) :=
  OpenClaim.holds_of_wide 4 Tryd.f4 rfl rfl rfl rfl rfl rfl rfl ⟨rfl, rfl, rfl, rfl, rfl⟩ rfl rfl rfl rfl rfl (by kernel_rfl) Tryd.func4 (by kernel_rfl)
    (of_decide_eq_true (by kernel_rfl)) (by unfold Func.isWrapper; first | (rw [if_pos (by decide +kernel)]; kernel_rfl) | (rw [if_neg (by decide +kernel)]; exact ⟨rfl, rfl⟩))
    (fun os started H enc _ => lifted os started H enc)
theorem proved : Rows.ShapeSpotsCardSaid :=
  Claim7.holds_tied_plain_at .later [] [.data, .data] true (true, "b51c9af04704eea82f655a5f45461bda46be16b68d0798ec6033d81cff00a01d") false
    over (fun _ h => by cases h) (by kernel_rfl) (fun _ h => by cases h) shapeSpots_row_tie rfl ⟨rfl, rfl⟩ (by kernel_rfl) rfl
    (fun f fn hf hfn => by
      obtain rfl : f = 4 := Option.some.inj ((show Tryd.prog.funcNamed "domino/dominolaw17.ShapeSpots" = some 4 by kernel_rfl).symm.trans hf) |>.symm
      obtain rfl : fn = Tryd.f4 := (Option.some.inj (Tryd.func4.symm.trans hfn)).symm
      exact ⟨by kernel_rfl, fun j t ht => by
        rw [Tryd.params4] at ht
        have hm : t ∈ [23, 3, 42, 43] := by simpa using Array.mem_of_getElem? ht
        have hall : ([23, 3, 42, 43].all fun u => !Tryd.prog.wantsStandIn u) = true := by kernel_rfl
        exact (show Tryd.prog.wantsStandIn t = false by simpa using List.all_eq_true.1 hall t hm)⟩)
    (by kernel_rfl)
#print axioms proved
end Go.Proofs.YtipmfficjomcoaaDoor.shapeSpots
