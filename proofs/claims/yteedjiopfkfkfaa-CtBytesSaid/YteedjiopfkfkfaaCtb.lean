/-
  The functions Equal and Choose of package ct, and what the document says of them, each by its contract. Conditions: the slices read as lists of bytes, of at most 2^40 bytes.
-/
import Derived.Test.YteedjiopfkfkfaaCt
import Derived.Test.YteedjiopfkfkfaaKept
import Derived.StillTailTactics
import Derived.Deep.OwnRows
namespace Go.Proofs.Yteedjiopfkfkfaa.Ct
open Go.RowKit Go.Proofs.Yteedjiopfkfkfaa.Bit Go.Proofs.Yteedjiopfkfkfaa.Mem Go.Proofs.Yteedjiopfkfkfaa.Help
set_option linter.unusedVariables false

/-- 1 if both lists are one, else 0 -/
def eqI (xs ys : List Int) : Int := if xs = ys then 1 else 0

theorem equal_any (B B' : Nat) (A A' : Option Addr) (n n' c c' : Nat) (zs zs' : List Int) (w : World) (h : Ints w .u8 B A n zs) (h' : Ints w .u8 B' A' n' zs') (hn : n ≤ 17592186044416) (hn' : n' ≤ 17592186044416) :
    Calls Try.prog 20 #[.slice A n c, .slice A' n' c'] w fun e w' => e = .returned (.int .u64 (eqI zs zs')) ∧ Still w w' := by
  by_cases hnn : n = n'
  · subst hnn
    have hne : ((n : Int) != (n : Int)) = false := by simp
    have HL := Lib.hid h.1
    have HL' := Lib.hid h'.1
    go_enter Try.func20, Try.ntmps20
    go_wp2_with fail
    go_loopw [5, 14] (fun d i wr => ∃ (k : Nat) (q : Int), k ≤ n ∧ i = .int .i64 k ∧ d = .int .u8 q ∧ 0 ≤ q ∧ q ≤ 255 ∧ Still w wr ∧ Hid (q = 0 ↔ zs.take k = zs'.take k)) (fun _ i _ => n - (intOf i).toNat)
    case atStart => exact ⟨0, 0, by omega, rfl, rfl, by omega, by omega, Still.refl _, Lib.hid (by simp)⟩
    case round =>
      obtain ⟨k, q, hk, rfl, rfl, hq0, hq1, hst, ht⟩ := hrel
      by_cases hlt : k < n
      · obtain ⟨b, off, rfl, hb, hc⟩ := (hst.ints h).at_ hlt
        obtain ⟨b', off', rfl, hb', hc'⟩ := (hst.ints h').at_ hlt
        have hlt' : (k : Int) < (n : Int) := by omega
        have hk0 : (0 : Int) ≤ (k : Int) := by omega
        have rx := wf_u8 (h.range hlt)
        have ry := wf_u8 (h'.range hlt)
        have G := gather_u8 q (zs.getD k 0) (zs'.getD k 0) ⟨hq0, hq1⟩ rx ry
        have HT := Lib.hid (show (bits .or .u8 q (bits .xor .u8 (zs.getD k 0) (zs'.getD k 0)) = 0 ↔ zs.take (k + 1) = zs'.take (k + 1)) by
          rw [G.2.2]
          constructor
          · rintro ⟨e1, e2⟩
            exact take_step (by have := HL.out; omega) (by have := HL'.out; omega) (ht.out.1 e1) e2
          · intro e
            have e1 : zs.take k = zs'.take k := by
              have := congrArg (List.take k) e
              simpa [List.take_take] using this
            refine ⟨ht.out.2 e1, ?_⟩
            have := congrArg (fun l => l[k]?) e
            simp only [List.getElem?_take, show k < k + 1 by omega, if_true] at this
            simp only [List.getD_eq_getElem?_getD, this])
        have G1 := G.1
        have G2 := G.2.1
        clear G
        generalize zs.getD k 0 = x at hc rx HT G1 G2
        generalize zs'.getD k 0 = y at hc' ry HT G1 G2
        go_wp2_with fail
        go_quiet (fail)
        go_wp2_with fail
        go_roundw
        case rel => exact ⟨k + 1, _, by omega, by go_num, rfl, G1, G2, hst.drewN _, HT⟩
        case measure => simp [intOf]; omega
      · have HF := Lib.hid (show alike q 0 = eqI zs zs' by
          have e1 := ht.out
          rw [List.take_of_length_le (by have := HL.out; omega), List.take_of_length_le (by have := HL'.out; omega)] at e1
          unfold alike eqI
          by_cases e : q = 0
          · rw [if_pos e, if_pos (e1.1 e)]
          · rw [if_neg e, if_neg (fun h => e (e1.2 h))])
        go_wp2_with fail
        refine (same_any _ _ (by omega) (by omega) (by omega) (by omega) _).mono ?_
        rintro e w' ⟨rfl, rfl⟩
        go_wp2_with fail
        go_ret
        exact ⟨ret_int HF.out, hst⟩
  · have hne : ((n : Int) != (n' : Int)) = true := by simp; omega
    have HF := Lib.hid (show eqI zs zs' = 0 by
      unfold eqI; rw [if_neg]; intro e; exact hnn (by rw [← h.1, ← h'.1, e]))
    clear h h' hnn
    go_enter Try.func20, Try.ntmps20
    go_wp2_with fail
    go_ret
    exact ⟨ret_int HF.out.symm, Still.refl _⟩

theorem requal_any (B B' : Nat) (A A' : Option Addr) (n n' c c' : Nat) (zs zs' : List Int) (w : World) (h : Ints w .u8 B A n zs) (h' : Ints w .u8 B' A' n' zs') :
    Calls Try.prog 21 #[.slice A n c, .slice A' n' c'] w fun e w' => e = .returned (.int .u64 (eqI zs zs')) ∧ w = w' := by
  have t1 := run_text (P := Try.prog) w 28 9 5 Try.underlying28 Try.underlying5 Try.underlying9 B A n c zs h
  have t2 := run_text (P := Try.prog) w 28 9 5 Try.underlying28 Try.underlying5 Try.underlying9 B' A' n' c' zs' h'
  have X := Lib.hid (text_inj h.2.1 h'.2.1)
  clear h h'
  go_enter Try.func21, Try.ntmps21
  go_wp2_with fail
  refine (one_any _ _).mono ?_
  rintro e w' ⟨rfl, rfl⟩
  go_wp2_with fail
  go_ret
  exact ⟨ret_int (by unfold oneI eqI; simp only [beq_iff_eq, X.out]), rfl⟩

/-- which of two lists is chosen -/
def chooseL (c : Int) (xs ys : List Int) : List Int := if xs.length = ys.length then (if c % 2 = 1 then xs else ys) else []
theorem chooseL_wf {c : Int} {xs ys : List Int} (hx : ∀ z ∈ xs, (Lit.int .u8 z).wf = true) (hy : ∀ z ∈ ys, (Lit.int .u8 z).wf = true) : ∀ z ∈ chooseL c xs ys, (Lit.int .u8 z).wf = true := by
  unfold chooseL; split
  · split <;> assumption
  · simp
theorem pick_get (c : Int) (xs ys : List Int) (k : Nat) : pickI c (xs.getD k 0) (ys.getD k 0) = (if c % 2 = 1 then xs else ys).getD k 0 := by unfold pickI; split <;> rfl
theorem still_of {P : Program} {f : FuncId} {args : Array Value} {w : World} {v : Value} (h : Calls P f args w fun e w' => e = .returned v ∧ w = w') : Calls P f args w fun e w' => e = .returned v ∧ w' = w :=
  h.mono fun _ _ ⟨a, b⟩ => ⟨a, b.symm⟩

theorem choose_any (B B' : Nat) (x : Int) (A A' : Option Addr) (n n' c c' : Nat) (zs zs' : List Int) (w : World) (hx : 0 ≤ x) (hx' : x < 18446744073709551616) (h : Ints w .u8 B A n zs) (h' : Ints w .u8 B' A' n' zs')
    (hB : B ≤ w.heap.size) (hB' : B' ≤ w.heap.size) (hn : n ≤ 17592186044416) (hn' : n' ≤ 17592186044416) :
    Calls Try.prog 19 #[.int .u64 x, .slice A n c, .slice A' n' c'] w fun e w' => ∃ v, e = .returned v ∧ Own w' w.heap.size 5 .u8 v (chooseL x zs zs') ∧ Below w.heap.size w w' := by
  by_cases hnn : n = n'
  · subst hnn
    have hne : ((n : Int) != (n : Int)) = false := by simp
    have HL := Lib.hid h.1
    have HL' := Lib.hid h'.1
    have hmk := fun W => run_make_row' (P := Try.prog) 28 5 (.int .u8 0) 1 Try.underlying28 info_u8 rfl .i64 .i64 n (by omega) (by omega) W
    have hfill := Fill.new w 5 (madeCells #[.int .u8 0] n) ((if x % 2 = 1 then zs else zs').map (Value.int .u8))
    rw [size_madeCells] at hfill
    go_enter Try.func19, Try.ntmps19
    go_wp2_with fail
    go_loopw [19] (fun i wr => ∃ k : Nat, k ≤ n ∧ i = .int .i64 k ∧ Below w.heap.size w wr ∧ Fill wr w.heap.size 5 n ((if x % 2 = 1 then zs else zs').map (Value.int .u8)) k) (fun i _ => n - (intOf i).toNat)
    case atStart => exact ⟨0, by omega, rfl, (Below.refl _ _).alloc (Nat.le_refl _) _, hfill⟩
    case round =>
      clear hmk hfill
      obtain ⟨k, hk, rfl, hbl, hfl⟩ := hrel
      by_cases hlt : k < n
      · obtain ⟨u, hu⟩ := hfl.cell hlt
        have hfr := hfl.frozen k
        obtain ⟨b, off, rfl, hb, hc⟩ := (h.keep fun p hp => hbl.cell (by omega)).at_ hlt
        obtain ⟨b', off', rfl, hb', hc'⟩ := (h'.keep fun p hp => hbl.cell (by omega)).at_ hlt
        have hlt' : (k : Int) < (n : Int) := by omega
        have hk0 : (0 : Int) ≤ (k : Int) := by omega
        have rx := wf_u8 (h.range hlt)
        have ry := wf_u8 (h'.range hlt)
        have e1 := pick_get x zs zs' k
        have rp : 0 ≤ pickI x (zs.getD k 0) (zs'.getD k 0) ∧ pickI x (zs.getD k 0) (zs'.getD k 0) ≤ 255 := by unfold pickI; split <;> omega
        have HS := Lib.hid (hfl.step (u := .int .u8 (pickI x (zs.getD k 0) (zs'.getD k 0))) (by
          have hz := HL.out
          have hz' := HL'.out
          rw [e1, List.getElem?_map, List.getD_eq_getElem?_getD]
          by_cases o : x % 2 = 1
          · rw [if_pos o, List.getElem?_eq_getElem (show k < zs.length by omega)]; rfl
          · rw [if_neg o, List.getElem?_eq_getElem (show k < zs'.length by omega)]; rfl) hlt)
        clear e1
        generalize zs.getD k 0 = p at hc rx HS rp
        generalize zs'.getD k 0 = q at hc' ry HS rp
        have wp : IntKind.u64.wrap p = p := IntWalk.u64_in _ (by omega)
        have wq : IntKind.u64.wrap q = q := IntWalk.u64_in _ (by omega)
        have wr1 : IntKind.u8.wrap (pickI x p q) = pickI x p q := IntWalk.u8_in _ (by omega)
        go_wp2_with fail
        go_still_tail 16, (by kernel_rfl)
        still_call (still_of (pick_any x p q hx hx' (by omega) (by omega) (by omega) (by omega) _))
        repeat still_step
        refine wpStill_nil ?_
        clear wp wq wr1
        change wpList _ _ _ _ _ wr.drew
        go_wp2_with fail
        go_roundw
        case rel => exact ⟨k + 1, by omega, by go_num, (hbl.setCell (by simp) _).drew, HS.out⟩
        case measure => simp [intOf]; omega
      · have HD := Lib.hid (hfl.done (by omega) (by have h1 := HL.out; have h2 := HL'.out; rw [List.length_map]; split <;> assumption))
        have HE := Lib.hid (show chooseL x zs zs' = if x % 2 = 1 then zs else zs' by
          unfold chooseL; rw [if_pos (HL.out.trans HL'.out.symm)])
        have HW := Lib.hid (chooseL_wf (c := x) h.2.1 h'.2.1)
        have HN := Lib.hid (show (if x % 2 = 1 then zs else zs').length = n by have h1 := HL.out; have h2 := HL'.out; split <;> assumption)
        go_wp2_with fail
        go_ret
        refine ⟨_, rfl, ?_, hbl⟩
        have hr : Row wr w.heap.size 5 .u8 (chooseL x zs zs') := ⟨HW.out, by rw [HE.out]; exact HD.out⟩
        have hlen : (chooseL x zs zs').length = n := by rw [HE.out]; exact HN.out
        have ho := hr.own (base := w.heap.size) (Nat.le_refl _) (n := n) (by omega) (by unfold maxLen; omega)
        rw [List.take_of_length_le (by omega), hlen] at ho
        exact ho
  · have hne : ((n : Int) != (n' : Int)) = true := by simp; omega
    have HF := Lib.hid (show chooseL x zs zs' = [] by
      unfold chooseL; rw [if_neg]; intro e; exact hnn (by rw [← h.1, ← h'.1, e]))
    clear h h' hnn
    go_enter Try.func19, Try.ntmps19
    go_wp2_with fail
    go_ret
    exact ⟨_, rfl, by rw [HF.out]; exact Own.nil _ _ _ _, Below.refl _ _⟩

theorem rchoose_any (B B' : Nat) (x : Int) (A A' : Option Addr) (n n' c c' : Nat) (zs zs' : List Int) (w : World) (hx : 0 ≤ x) (hx' : x < 18446744073709551616) (h : Ints w .u8 B A n zs) (h' : Ints w .u8 B' A' n' zs')
    (hn : n ≤ 17592186044416) (hn' : n' ≤ 17592186044416) :
    Calls Try.prog 23 #[.int .u64 x, .slice A n c, .slice A' n' c'] w fun e w' => ∃ v, e = .returned v ∧ Own w' w.heap.size 5 .u8 v (chooseL x zs zs') ∧ Below w.heap.size w w' := by
  by_cases hnn : n = n'
  · subst hnn
    have hne : ((n : Int) != (n : Int)) = false := by simp
    have HL : zs.length = zs'.length := h.1.trans h'.1.symm
    by_cases o : x % 2 = 1
    · have t : (bits .and .u64 x 1 == 1) = true := by rw [and_one x hx hx', o]; rfl
      have HE := Lib.hid (show chooseL x zs zs' = zs by unfold chooseL; rw [if_pos HL, if_pos o])
      clear HL o
      go_enter Try.func23, Try.ntmps23
      go_wp2_with (at_builtin; refine wpList_append_ints _ rfl _ _ 28 rfl w.heap.size 5 .u8 1 Try.underlying28 info_u8 (.slice none 0 0) [] rfl (Own.nil _ _ _ _) B A n c zs rfl h (by simpa using hn) (by omega) (Nat.le_refl _) ?_; intro v1 w1 hown1 hg1 hat1)
      go_ret
      exact ⟨v1, rfl, by rw [HE.out]; simpa using hown1, (Below.refl _ _).grown hg1 (Nat.le_refl _) (by simp [Value.ownBlock])⟩
    · have t : (bits .and .u64 x 1 == 1) = false := by rw [and_one x hx hx']; simpa using o
      have HE := Lib.hid (show chooseL x zs zs' = zs' by unfold chooseL; rw [if_pos HL, if_neg o])
      clear HL o
      go_enter Try.func23, Try.ntmps23
      go_wp2_with (at_builtin; refine wpList_append_ints _ rfl _ _ 28 rfl w.heap.size 5 .u8 1 Try.underlying28 info_u8 (.slice none 0 0) [] rfl (Own.nil _ _ _ _) B' A' n c' zs' rfl h' (by simpa using hn) (by omega) (Nat.le_refl _) ?_; intro v1 w1 hown1 hg1 hat1)
      go_ret
      exact ⟨v1, rfl, by rw [HE.out]; simpa using hown1, (Below.refl _ _).grown hg1 (Nat.le_refl _) (by simp [Value.ownBlock])⟩
  · have hne : ((n : Int) != (n' : Int)) = true := by simp; omega
    have HF := Lib.hid (show chooseL x zs zs' = [] by
      unfold chooseL; rw [if_neg]; intro e; exact hnn (by rw [← h.1, ← h'.1, e]))
    clear h h' hnn
    go_enter Try.func23, Try.ntmps23
    go_wp2_with fail
    go_ret
    exact ⟨_, rfl, by rw [HF.out]; exact Own.nil _ _ _ _, Below.refl _ _⟩
end Go.Proofs.Yteedjiopfkfkfaa.Ct
