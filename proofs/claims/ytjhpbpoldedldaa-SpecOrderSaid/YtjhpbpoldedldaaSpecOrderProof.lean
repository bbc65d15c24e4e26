/-
  The law SpecOrder of package dominolaw12 returns true for every list of numbers: a fold that hangs on the order is done in the order of the input.
-/
import Derived.Test.YtjhpbpoldedldaaRows
import Derived.WalkKit
import Derived.ProofKit
import Derived.OpenShut
import Derived.ShutString
import Derived.ChangeOld
import Derived.Below
import Derived.Test.YtjhpbpoldedldaaB8
namespace Go.Proofs.Ytjhpbpoldedldaa.specOrder
open Go.ChangeShapes Go.WideShapes Go.ChangeAt Go.RowKit
open Go.ChangeMaps (open_string shut_string)
open Go.Shelf Go.Proofs.Ytjhpbpoldedldaa Mem Help Held Rc Rs Sl Vm Sp
theorem own : ownKnob Try.prog.godebug = none := by kernel_rfl
theorem laidOut : laidOutB Try.prog = true := by kernel_rfl
def IsRow (k : IntKind) (w : World) (a : Option Addr) (len cap : Nat) (zs : List Int) : Prop :=
  (a = none ∧ len = 0 ∧ cap = 0 ∧ zs = []) ∨
  ∃ x, a = some x ∧ len ≤ cap ∧ cap ≤ maxLen ∧ zs.length = cap ∧ (∀ i, i < zs.length → w.cell? (x.add i) = some (.int k (zs.getD i 0))) ∧ ∀ n ∈ zs, (Lit.int k n).wf = true
attribute [local irreducible] wpList Calls
def mO : List O := [⟨1, 3, 0, 0, 0, 1⟩, ⟨12, 0, 4, 1, 3, 0⟩]
def fO : List O := [⟨1, 2, 0, 0, 0, 10⟩, ⟨4, 0, 0, 2, 0, 0⟩, ⟨2, 0, 0, 1, 0, 0⟩]
theorem mO_wf : ∀ x ∈ mO, x.wf := fun x hx => by
  simp only [mO, List.mem_cons, List.not_mem_nil, or_false] at hx
  rcases hx with rfl | rfl <;> exact ⟨rfl, rfl, rfl, rfl, rfl, rfl⟩
theorem fO_wf : ∀ x ∈ fO, x.wf := fun x hx => by
  simp only [fO, List.mem_cons, List.not_mem_nil, or_false] at hx
  rcases hx with rfl | rfl | rfl <;> exact ⟨rfl, rfl, rfl, rfl, rfl, rfl⟩
theorem checkO : checkB 1 mO fO [] = true := by decide +kernel
def dig (z : Int) : Int := wrap64 ((IntKind.u64.wrap z).tmod 10)
theorem dig_says (z : Int) : 0 ≤ dig z ∧ dig z < 10 := by
  unfold dig
  have hu0 : 0 ≤ IntKind.u64.wrap z := by rw [IntKind.wrap_u64]; omega
  have h1 : 0 ≤ IntKind.u64.wrap z % 10 := Int.emod_nonneg _ (by omega)
  have h2 : IntKind.u64.wrap z % 10 < 10 := Int.emod_lt_of_pos _ (by omega)
  rw [Int.tmod_eq_emod_of_nonneg hu0]
  unfold wrap64
  omega
theorem dig_wf (z : Int) : (Lit.int .i64 (dig z)).wf = true := wrap64_wf _
def psO (zs : List Int) (i : Nat) : List (Int × Int) := (List.range i).map (fun (j : Nat) => ((j : Int), dig (zs.getD j 0)))
def wantO (zs : List Int) : Nat → Int
  | 0 => 0
  | i + 1 => wrap64 (wrap64 (10 * wantO zs i) + dig (zs.getD i 0))
theorem psO_snoc (zs : List Int) (i : Nat) : psO zs (i + 1) = psO zs i ++ [((i : Int), dig (zs.getD i 0))] := by simp [psO, List.range_succ]
theorem psO_length (zs : List Int) (i : Nat) : (psO zs i).length = i := by simp [psO]
theorem psO_get (zs : List Int) {n i : Nat} (h : i < n) : (psO zs n).getD i (0, 0) = ((i : Int), dig (zs.getD i 0)) := by
  rw [psO, List.getD_eq_getElem?_getD, List.getElem?_map, List.getElem?_range h]
  rfl
theorem psO_wf (zs : List Int) {i : Nat} (hi : i ≤ 1000) : ∀ x ∈ psO zs i, pwf x := fun x hx => by
  obtain ⟨j, hj, rfl⟩ := List.mem_map.1 hx
  have := List.mem_range.1 hj
  exact ⟨nat_wf (by omega), dig_wf _⟩
theorem order_fold (a v : Int) : foldV 1 mO fO [] a v = wrap64 (wrap64 (a * 10) + v) := by
  rw [foldV, if_pos checkO]
  rfl
theorem order_live (ps : List (Int × Int)) (i : Nat) : ∃ s, liveAt 1 mO fO [] ps i = [⟨false, 0, (ps.getD i (0, 0)).2, s⟩] := by
  rw [liveAt, mapR, if_pos checkO]
  exact ⟨_, rfl⟩
theorem order_to (zs : List Int) (n : Nat) : ∀ i, i < n → foldP (foldV 1 mO fO []) (liveTo 1 mO fO [] (psO zs n) (i + 1)) = [(0, wantO zs (i + 1))]
  | 0, h => by
    obtain ⟨s, e⟩ := order_live (psO zs n) 0
    rw [liveTo_snoc, foldP_app, e, psO_get zs h]
    obtain ⟨hd0, hd1⟩ := dig_says (zs.getD 0 0)
    show [((0 : Int), dig (zs.getD 0 0))] = _
    rw [wantO, wantO]
    congr 2
    unfold wrap64
    omega
  | i + 1, h => by
    obtain ⟨s, e⟩ := order_live (psO zs n) (i + 1)
    rw [liveTo_snoc, foldP_app, order_to zs n i (by omega), e, psO_get zs h]
    show [((0 : Int), foldV 1 mO fO [] (wantO zs (i + 1)) (dig (zs.getD (i + 1) 0)))] = [(0, wrap64 (wrap64 (10 * wantO zs (i + 1)) + dig (zs.getD (i + 1) 0)))]
    rw [order_fold, Int.mul_comm]
theorem order_run (zs : List Int) {n : Nat} (hn : 0 < n) : runP 1 mO fO [] (psO zs n) = [(0, wantO zs n)] := by
  have e : foldP (foldV 1 mO fO []) (live 1 mO fO [] (psO zs n)) = [(0, wantO zs n)] := by
    rw [live, psO_length]
    obtain ⟨m, rfl⟩ : ∃ m, n = m + 1 := ⟨n - 1, by omega⟩
    exact order_to zs (m + 1) m (by omega)
  rw [runP, e, sortP_one, List.map_cons, List.map_nil, finP, finishV, if_pos checkO]
  rfl
theorem want_wf (zs : List Int) : ∀ n, (Lit.int .i64 (wantO zs n)).wf = true
  | 0 => rfl
  | n + 1 => wrap64_wf _
theorem right_of {n k : Nat} (h1 : 0 < n) (h20 : n ≤ 20) (hk1 : 1 ≤ k) (hk : (k : Int) * n < 32) (hk4 : k ≤ 4) : rightB (n : Int) (k : Int) 1 1 = true := by
  have e : ((n : Int) + 1 - 1) / 1 = n := by rw [Int.ediv_one]; omega
  unfold rightB
  rw [e]
  simp only [Bool.and_eq_true, decide_eq_true_eq]
  refine ⟨⟨⟨⟨⟨?_, ?_⟩, ?_, ?_⟩, ?_, ?_⟩, ?_, ?_⟩, ?_⟩ <;> omega
set_option maxRecDepth 100000 in
set_option maxHeartbeats 16000000 in
theorem start (A : Option Addr) (len cap : Nat) (zs : List Int) (w : World) (hz : Ints w .i64 w.heap.size A len zs) :
    Calls Try.prog 4 #[.slice A len cap] w fun e w' => e = .returned (.bool true) ∧ Below w.heap.size w w' := by
  go_enter Try.func4, Try.ntmps4
  by_cases hsm : len = 0 ∨ 12 < len
  · have hq : Hid (len = 0 ∨ 12 < len) := Lib.hid hsm
    by_cases h0 : len = 0
    · subst h0
      go_wp2_with fail
      refine (awake12_any w).mono ?_
      rintro e u2 ⟨rfl, b2⟩
      go_wp2_with fail
      go_ret
      exact ⟨rfl, b2⟩
    · have h0' : ¬ (len : Int) = 0 := by omega
      have h12 : (len : Int) > 12 := by omega
      clear hsm hq
      go_wp2_with fail
      refine (awake12_any w).mono ?_
      rintro e u2 ⟨rfl, b2⟩
      go_wp2_with fail
      go_ret
      exact ⟨rfl, b2⟩
  · have h0 : ¬ (len : Int) = 0 := by omega
    have h12 : ¬ (len : Int) > 12 := by omega
    have hl0 : 0 < len := by omega
    have hl12 : len ≤ 12 := by omega
    have hl12' : (len : Int) ≤ 12 := by omega
    clear hsm
    go_wp2_with (first
      | (refine wpList_build_blk rfl 41 #[(0, _), (1, _), (5, _)] rfl #[.int .i64 1, .int .i64 3, .int .i64 0, .int .i64 0, .int .i64 0, .int .i64 1] (by rfl) ?_)
      | (refine wpList_build_blk rfl 41 #[(0, _), (2, _), (3, _), (4, _)] rfl #[.int .i64 12, .int .i64 0, .int .i64 4, .int .i64 1, .int .i64 3, .int .i64 0] (by rfl) ?_)
      | (refine wpList_build_blk rfl 41 #[(0, _), (1, _), (5, _)] rfl #[.int .i64 1, .int .i64 2, .int .i64 0, .int .i64 0, .int .i64 0, .int .i64 10] (by rfl) ?_)
      | (refine wpList_build_blk rfl 41 #[(0, _), (3, _)] rfl #[.int .i64 4, .int .i64 0, .int .i64 0, .int .i64 2, .int .i64 0, .int .i64 0] (by rfl) ?_)
      | (refine wpList_build_blk rfl 41 #[(0, _), (3, _)] rfl #[.int .i64 2, .int .i64 0, .int .i64 0, .int .i64 1, .int .i64 0, .int .i64 0] (by rfl) ?_)
      | (refine wpList_build_lst (w := w) (k := kO) rfl 28 41 2 _ rfl Try.underlying28 _ 48 info_op rfl mO rfl (by kernel_rfl) (by omega) (by decide) ?_; intro u1 q1 g1 z1)
      | (refine wpList_build_lst (w := u1) (k := kO) rfl 28 41 3 _ rfl Try.underlying28 _ 48 info_op rfl fO rfl (by kernel_rfl) (by omega) (by decide) ?_; intro u2 q2 g2 z2)
      | (refine wpList_build_blk rfl 30 _ rfl #[.int .i64 1, .slice (some ⟨w.heap.size, 0, none⟩) 2 2, .slice (some ⟨u1.heap.size, 0, none⟩) 3 3, .slice none 0 0] (by kernel_rfl) ?_)
      | (refine wpList_alloc_blk (w := u2) rfl 30 rfl _ zero_prog ?_; intro u3 q3 g3 z3)
      | (refine wpList_store_blk (w := u3) rfl 30 _ _ rfl u2.heap.size 4 rfl 30 _ #[.int .i64 1, .slice (some ⟨w.heap.size, 0, none⟩) 2 2, .slice (some ⟨u1.heap.size, 0, none⟩) 3 3, .slice none 0 0] rfl q3 info_prog rfl rfl (by kernel_rfl) ?_; intro u4 q4 g4 z4))
    have l1 := q1.lt
    have l2 := q2.lt
    have hw1 := g1.size
    have hw2 := g2.size
    have hw3 := g3.size
    have hw4 := g4.size
    have b4 : Below w.heap.size w u4 := ((((Below.refl _ w).grown g1 (Nat.le_refl _) (by simp)).grown g2 g1.size (by simp)).grown g3 (by omega) (by simp)).grown g4 (by omega) (fun r e => by cases e; omega)
    have LM : Lst kO u4 u4.heap.size (some ⟨w.heap.size, 0, none⟩) 2 mO := lst_whole (((q1.grown g2 (by simp)).grown g3 (by simp)).grown g4 (by intro e; injection e with e; omega)) rfl mO_wf
    have LF : Lst kO u4 u4.heap.size (some ⟨u1.heap.size, 0, none⟩) 3 fO := lst_whole ((q2.grown g3 (by simp)).grown g4 (by intro e; injection e with e; omega)) rfl fO_wf
    have hz4 := hz.below b4
    clear q1 q2 q3 g1 g2 g3 g4 z1 z2 z3 z4 hw1 hw2 hw3 hw4 l1 l2 hz
    go_loopw [4, 5, 6] (fun inn want t wr => ∃ (i L c1 : Nat) (A1 : Option Addr), i ≤ len ∧ inn = .slice A1 L c1 ∧ want = .int .i64 (wantO zs i) ∧ t = .int .i64 i ∧ Hid ((psO zs i).length = L) ∧ OwnL kP 36 wr u4.heap.size (.slice A1 L c1) (psO zs i) ∧ Below u4.heap.size u4 wr) (fun _ _ t _ => len - (intOf t).toNat)
    case atStart => exact ⟨0, 0, 0, none, by omega, rfl, rfl, rfl, Lib.hid rfl, OwnL.nil _ _ _ _, Below.refl _ _⟩
    case round =>
      obtain ⟨i, L, c1, A1, hi, rfl, rfl, rfl, HL, o, b⟩ := hrel
      by_cases hlt : i < len
      · have hlt' : (i : Int) < (len : Int) := by omega
        have hi0 : (0 : Int) ≤ (i : Int) := by omega
        obtain ⟨bb, off, rfl, hbb, hcc⟩ := hz4.2.2 (by omega)
        have hcx : wr.cell? ⟨bb, off + i, none⟩ = some (.int .i64 (zs.getD i 0)) := (b.cell (p := ⟨bb, off + i, none⟩) (by have := b4.size; exact Nat.lt_of_lt_of_le hbb this)).trans (hcc i hlt)
        have HW := Lib.hid (show wantO zs (i + 1) = wrap64 (wrap64 (10 * wantO zs i) + dig (zs.getD i 0)) from rfl)
        have HD := Lib.hid (show wrap64 ((IntKind.u64.wrap (zs.getD i 0)).tmod 10) = dig (zs.getD i 0) from rfl)
        have hdw := dig_wf (zs.getD i 0)
        have HS := Lib.hid (psO_snoc zs i)
        have HLL := Lib.hid (show L = i by rw [← HL.out, psO_length])
        have hiw := nat_wf (n := i) (by omega)
        generalize zs.getD i 0 = z at *
        generalize wantO zs i = W at *
        go_wp2_with (first
          | (refine wpList_build_lst (w := wr) (k := kP) rfl 22 36 1 _ rfl Try.underlying22 _ 16 info_pair rfl [((i : Int), dig z)] rfl (by kernel_rfl) (by omega) (by decide) ?_; intro v1 q1 g1 z1; have o1 := o.below ((Below.refl _ wr).grown g1 (Nat.le_refl _) (by simp)); have b1 := b.grown g1 b.size (by simp); have i1 : Lst kP v1 v1.heap.size (some ⟨wr.heap.size, 0, none⟩) 1 [((i : Int), dig z)] := lst_whole q1 rfl (fun x hx => by rw [List.mem_singleton.1 hx]; exact ⟨hiw, hdw⟩))
          | (at_builtin; refine wpList_append_lst (w := v1) (k := kP) rfl _ _ 22 36 rfl Try.underlying22 _ 16 info_pair rfl u4.heap.size v1.heap.size wr.heap.size 0 1 1 (.slice A1 L c1) (psO zs i) [((i : Int), dig z)] rfl rfl o1 i1 (by rw [HL.out, HLL.out]; omega) (by omega) b1.size ?_; intro vv v2 o2 g2 t2; rw [← HS.out] at o2; obtain ⟨A2, L2, c2, rfl, HL2, hc2⟩ := o2.form2; have b2 := b1.grown g2 b1.size (fun r e => (o1.lt r e).1)))
        go_roundw
        case rel => exact ⟨i + 1, L2, c2, A2, by omega, rfl, by rw [HW.out]; rfl, by go_num, HL2, o2, b2⟩
        case measure => simp [intOf]; omega
      · have hin : i = len := by omega
        subst hin
        have LP := o.lst (psO_wf zs (by omega))
        have HLL := Lib.hid (show L = i by rw [← HL.out, psO_length])
        obtain rfl := HLL.out
        have q5 := q4.after b
        have LM5 := (LM.below b).more b.size
        have LF5 := (LF.below b).more b.size
        have b5 := b4.trans (b.mono b4.size)
        have HR := Lib.hid (order_run zs hl0)
        have HWF := Lib.hid (want_wf zs L)
        have HC := Lib.hid checkO
        have HB := Lib.hid (right_of (n := L) (k := 1) hl0 (by omega) (by omega) (by omega) (by omega))
        clear q4 LM LF b4 b o hz4 HL HLL
        go_wp2_with (first
          | (refine wpList_load_blk (w := wr) rfl 30 _ rfl u2.heap.size 4 rfl 30 _ q5 _ Try.underlying30 rfl info_prog rfl ?_)
          | (refine wpList_run (w := wr) rfl (v := .agg #[.int .i64 (L : Int), .int .i64 1, .int .i64 1, .int .i64 1]) (y_build (S := fun _ => True) (parts := #[_, _, _, _]) rfl (by kernel_rfl) _ trivial) ?_))
        refine (run_ok wr.heap.size 1 1 1 _ _ none A1 2 2 3 3 0 0 L c1 mO fO [] (psO zs L) wr LM5 LF5 (Lst.nil _ _ _ _) LP (Nat.le_refl _) HC.out HB.out).mono ?_
        rintro e w6 ⟨A', n', c', rfl, o6, b6⟩
        have HR2 : runP ((1 : Nat) : Int) mO fO [] (psO zs L) = [(0, wantO zs L)] := HR.out
        rw [HR2] at o6
        clear HR HR2
        have q6 := q5.after b6
        have LM6 := (LM5.below b6).more b6.size
        have LF6 := (LF5.below b6).more b6.size
        have b6 := b5.trans (b6.mono b5.size)
        obtain ⟨A9, c9, e9, _⟩ := o6.form
        injection e9 with e1 e2 e3
        subst e1
        subst e2
        subst e3
        have LR := o6.lst (fun x hx => by rw [List.mem_singleton.1 hx]; exact ⟨rfl, HWF.out⟩)
        clear q5 LM5 LF5 LP b5 o6
        go_wp2_with fail
        refine (awake12_any w6).mono ?_
        rintro e w7 ⟨rfl, b7⟩
        have q7 := q6.after b7
        have LM7 := (LM6.below b7).more b7.size
        have LF7 := (LF6.below b7).more b7.size
        have LR7 := LR.below b7
        have b7 := b6.trans (b7.mono b6.size)
        obtain ⟨g, off, rfl, hgl, hx⟩ := LR7.at_ (i := 0) (Nat.succ_pos _)
        have hx : w7.rangeAt g (off + 0 * 2) [.int .i64 0, .int .i64 (wantO zs L)] := hx
        clear q6 LM6 LF6 b6 LR LR7
        generalize wantO zs L = W at *
        go_wp2_with (first
          | (refine wpList_run (w := w7) rfl (v := .pointer (some ⟨g, off + 0 * 2, none⟩)) (Held.y_addr (S := fun _ => True) rfl rfl rfl (run_addr_of (P := Try.prog) 22 36 g off 1 c' 0 2 .i64 Try.underlying22 size_pair (by decide)) _ trivial) ?_)
          | (refine wpList_run (w := w7) rfl (v := .agg #[.int .i64 0, .int .i64 W]) (y_load_range (S := fun W => W = w7) (n := 2) (cs := [.int .i64 0, .int .i64 W]) rfl rfl Try.underlying36 rfl size_pair rfl (fun W hW => by rw [hW]; exact hx) _ rfl) ?_)
          | (refine wpList_run (w := w7) rfl (v := .bool true) (y_eqp (S := fun _ => True) (a := 0) (b := W) (c := 0) (d := W) rfl rfl rfl (by simp) _ trivial) ?_)
          | (refine wpList_load_blk (w := w7) rfl 30 _ rfl u2.heap.size 4 rfl 30 _ q7 _ Try.underlying30 rfl info_prog rfl ?_))
        refine (rcheck_ok w7.heap.size 1 _ _ none 2 2 3 3 0 0 mO fO [] w7 LM7 LF7 (Lst.nil _ _ _ _) (Nat.le_refl _) HC.out).mono ?_
        rintro e w8 ⟨rfl, b8⟩
        have b8 := b7.trans (b8.mono b7.size)
        go_wp2_with fail
        go_ret
        exact ⟨rfl, b8⟩
theorem walk (a0 : Option Addr) (len0 cap0 : Nat) (z0 : List Int) (w : World) (w0 : IsRow .i64 w a0 len0 cap0 z0) :
    Calls Try.prog 4 #[.slice a0 len0 cap0] w fun e w' => e = .returned (.bool true) ∧ Below w.heap.size w w' := by
  obtain ⟨hz, hl, hm⟩ := ints_of_row w0
  exact start a0 len0 cap0 _ w hz
set_option maxRecDepth 100000 in
theorem lifted (os : Os) (started : os.Started) (H : Type) (enc : TypeId × Value → H) :
    ReturnsInHanded {} Try.checked os 4 .any (Rows.specOrderSpec.pre6 enc Try.prog Try.f4 Rows.specOrderRow.domain false) (Rows.specOrderSpec.post enc Try.prog Try.f4 false true false false) := by
  refine returnsInHanded_of_change (C := Try.checked) own started (by kernel_rfl) Try.func4
    (ChangeSpec.witness6 (enc := enc) (C := Try.checked) false ⟨#[], #[.slice none 0 0], []⟩ 8 (by kernel_rfl) (by kernel_rfl) (by kernel_rfl) (by kernel_rfl)) ?_
  intro W base args ds gs before hval0 hW hcnd _
  have hval : ∀ (j : Nat) t v, Try.f4.params[j]? = some t → args[j]? = some v → Value.okWide Try.prog W .any base t v := hval0
  have hW' := hW
  obtain ⟨p, q, hA0, hV, rfl, hfz, hnd⟩ := hW
  have hA : DataW.TrodAll enc Try.prog W 0 (fun _ => true) true Try.f4.params.toList args.toList ds p := hA0
  rw [Try.params4] at hA hval
  obtain ⟨v0, vs0, d0, ds0, p0, q0, hargs, rfl, rfl, h0, r0⟩ := trodAll_cons hA
  obtain ⟨rfl, rfl, rfl⟩ := trodAll_nil r0
  obtain rfl : args = #[v0] := by cases args; simp_all
  obtain ⟨rfl, rfl⟩ := trodVars_none hV
  obtain ⟨a0, len0, cap0, rfl⟩ := okWide_slice Try.underlying39 (hval 0 39 v0 rfl rfl)
  have k0 := h0
  have lt0 : ∀ x ∈ p0, x.block < W.heap.size := by obtain ⟨m, hm⟩ := k0; exact DataW.trod_lt m _ _ _ hm
  obtain ⟨z0, w0⟩ : ∃ zs, IsRow .i64 W a0 len0 cap0 zs := by
    obtain ⟨fuel, hf⟩ := h0
    rcases open_ints Try.underlying39 Try.underlying3 (by kernel_rfl) hf with ⟨hcs, _⟩ | ⟨x, l, c, zs, hcs, _, hl, hm, hz, _, hcell, hwz⟩
    · simp [Value.cells] at hcs
      obtain ⟨rfl, rfl, rfl⟩ := hcs
      exact ⟨[], .inl ⟨rfl, rfl, rfl, rfl⟩⟩
    · simp [Value.cells] at hcs
      obtain ⟨rfl, rfl, rfl⟩ := hcs
      exact ⟨zs, .inr ⟨_, rfl, hl, hm, by simpa using hz, hcell, hwz⟩⟩
  clear hA0 hval0
  refine (walk a0 len0 cap0 z0 W w0).mono fun e W' ⟨he, bel⟩ => ?_
  subst he
  exact ⟨_, rfl, _, _, _, [], _, [], hW', trodAll_mk1 (shut_bool Try.underlying4 _), (trodAll_cons_mk (Below.trod laidOut (by kernel_rfl) (of_decide_eq_true (by kernel_rfl)) k0 bel lt0) trodAll_mk0), rfl, bel.frame _, fun h => by cases h⟩
theorem over : Rows.specOrderRow.holds Try.pinned (OpenSpec.ofChange Rows.specOrderSpec) :=
  OpenClaim.holds_of_wide 4 Try.f4 rfl rfl rfl rfl rfl rfl rfl ⟨rfl, rfl, rfl, rfl, rfl⟩ rfl rfl rfl rfl rfl (by kernel_rfl) Try.func4 (by kernel_rfl)
    (of_decide_eq_true (by kernel_rfl)) (by unfold Func.isWrapper; first | (rw [if_pos (by decide +kernel)]; kernel_rfl) | (rw [if_neg (by decide +kernel)]; exact ⟨rfl, rfl⟩))
    (fun os started H enc _ => lifted os started H enc)
theorem proved : Rows.SpecOrderSaid :=
  over
#print axioms proved
end Go.Proofs.Ytjhpbpoldedldaa.specOrder
