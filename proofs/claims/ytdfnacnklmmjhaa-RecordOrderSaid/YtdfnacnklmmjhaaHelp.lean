/-
  The functions of package dominohelp on bytes, each by its contract. Conditions: the slices read as lists of bytes, of at most 2^44 bytes.
-/
import Derived.Test.YtdfnacnklmmjhaaRows
import Derived.Test.YtdfnacnklmmjhaaOwn
namespace Go.Proofs.Ytdfnacnklmmjhaa.Help
open Go.RowKit Go.Proofs.Ytdfnacnklmmjhaa.Mem
set_option linter.unusedVariables false

theorem info_u8 : (Try.prog.info? 5).map (fun i => (i.zero, i.size, i.bytes)) = some (some (.int .u8 0), 1, 1) := by kernel_rfl

/-- nothing has turned, but for a count of draws -/
def Still (w w' : World) : Prop := ∃ m, w' = w.drewN m
section
variable {w w' w'' : World}
theorem Still.refl (w : World) : Still w w := ⟨0, rfl⟩
theorem Still.drewN (h : Still w w') (n : Nat) : Still w (w'.drewN n) := by obtain ⟨m, rfl⟩ := h; exact ⟨m + n, by simp⟩
theorem Still.trans (h : Still w w') (k : Still w' w'') : Still w w'' := by obtain ⟨m, rfl⟩ := h; obtain ⟨n, rfl⟩ := k; exact ⟨m + n, by simp⟩
theorem Still.below (h : Still w w') (B : Nat) : Below B w w' := by obtain ⟨m, rfl⟩ := h; exact below_drewN (Below.refl _ _) m
theorem Still.size (h : Still w w') : w'.heap.size = w.heap.size := by obtain ⟨m, rfl⟩ := h; rfl
theorem Still.cell (h : Still w w') (p : Addr) : w'.cell? p = w.cell? p := by obtain ⟨m, rfl⟩ := h; rfl
theorem Still.heap (h : Still w w') : w'.heap = w.heap := by obtain ⟨m, rfl⟩ := h; rfl
theorem Still.ints (h : Still w w') {k : IntKind} {B n : Nat} {A : Option Addr} {zs : List Int} (hi : Ints w k B A n zs) : Ints w' k B A n zs := hi.below (h.below B)
theorem Still.own (h : Still w w') {base : Nat} {t : TypeId} {k : IntKind} {v : Value} {zs : List Int} (hi : Mem.Own w base t k v zs) : Mem.Own w' base t k v zs := hi.below (h.below _)
end

theorem take_step {xs ys : List Int} {k : Nat} (hx : k < xs.length) (hy : k < ys.length) (h : xs.take k = ys.take k) (e : xs.getD k 0 = ys.getD k 0) : xs.take (k + 1) = ys.take (k + 1) := by
  rw [List.take_add_one, List.take_add_one, h]
  simp only [List.getD_eq_getElem?_getD, List.getElem?_eq_getElem hx, List.getElem?_eq_getElem hy, Option.getD_some] at e
  rw [List.getElem?_eq_getElem hx, List.getElem?_eq_getElem hy, e]

theorem eq_byte (x y : Int) (w : World) : Calls Try.prog 39 #[.int .u8 x, .int .u8 y] w fun e w' => e = .returned (.bool (x == y)) ∧ w = w' := by
  go_enter Try.func39, Try.ntmps39
  go_wp2
  go_ret
  exact ⟨rfl, rfl⟩

theorem same_any (B B' : Nat) (A A' : Option Addr) (n n' c c' : Nat) (zs zs' : List Int) (w : World) (h : Ints w .u8 B A n zs) (h' : Ints w .u8 B' A' n' zs') (hn : n ≤ 17592186044416) (hn' : n' ≤ 17592186044416) :
    Calls Try.prog 38 #[.slice A n c, .slice A' n' c', .func (Fn.func 39) #[] #[]] w fun e w' => e = .returned (.bool (decide (zs = zs'))) ∧ Still w w' := by
  by_cases hnn : n = n'
  · subst hnn
    have hne : ((n : Int) != (n : Int)) = false := by simp
    have HL := Lib.hid h.1
    have HL' := Lib.hid h'.1
    go_enter Try.func38, Try.ntmps38
    go_wp2_with fail
    go_loopw [7] (fun i wr => ∃ k : Nat, k ≤ n ∧ i = .int .i64 k ∧ Still w wr ∧ Hid (zs.take k = zs'.take k)) (fun i _ => n - (intOf i).toNat)
    case atStart => exact ⟨0, by omega, rfl, Still.refl _, Lib.hid rfl⟩
    case round =>
      obtain ⟨k, hk, rfl, hst, ht⟩ := hrel
      by_cases hlt : k < n
      · obtain ⟨b, off, rfl, hb, hc⟩ := (hst.ints h).at_ hlt
        obtain ⟨b', off', rfl, hb', hc'⟩ := (hst.ints h').at_ hlt
        have hlt' : (k : Int) < (n : Int) := by omega
        have hk0 : (0 : Int) ≤ (k : Int) := by omega
        by_cases hq : zs.getD k 0 = zs'.getD k 0
        · have HT := Lib.hid (take_step (by have := HL.out; omega) (by have := HL'.out; omega) ht.out hq)
          have q : (zs.getD k 0 == zs'.getD k 0) = true := by simpa using hq
          clear hq
          generalize zs.getD k 0 = x at hc q
          generalize zs'.getD k 0 = y at hc' q
          go_wp2_with fail
          go_quiet ((go_at_call 39; exact quiet_same (eq_byte _ _ _)))
          go_wp2_with fail
          go_roundw
          case rel => exact ⟨k + 1, by omega, by go_num, hst.drewN _, HT⟩
          case measure => simp [intOf]; omega
        · have HF := Lib.hid (show decide (zs = zs') = false by
            rw [decide_eq_false_iff_not]; intro e; exact hq (by rw [e]))
          have q : (zs.getD k 0 == zs'.getD k 0) = false := by simpa using hq
          clear hq
          generalize zs.getD k 0 = x at hc q
          generalize zs'.getD k 0 = y at hc' q
          go_wp2_with fail
          go_quiet ((go_at_call 39; exact quiet_same (eq_byte _ _ _)))
          go_wp2_with fail
          go_ret
          exact ⟨ret_bool HF.out.symm, hst.drewN _⟩
      · have HF := Lib.hid (show decide (zs = zs') = true by
          have e1 := ht.out
          rw [List.take_of_length_le (by have := HL.out; omega), List.take_of_length_le (by have := HL'.out; omega)] at e1
          simpa using e1)
        go_wp2_with fail
        go_ret
        exact ⟨ret_bool HF.out.symm, hst⟩
  · have hne : ((n : Int) != (n' : Int)) = true := by simp; omega
    have HF := Lib.hid (show decide (zs = zs') = false by
      rw [decide_eq_false_iff_not]; intro e; exact hnn (by rw [← h.1, ← h'.1, e]))
    clear h h' hnn
    go_enter Try.func38, Try.ntmps38
    go_wp2_with fail
    go_ret
    exact ⟨ret_bool HF.out.symm, Still.refl _⟩

theorem plain_any (B B' : Nat) (A A' : Option Addr) (n n' c c' : Nat) (zs zs' : List Int) (w : World) (h : Ints w .u8 B A n zs) (h' : Ints w .u8 B' A' n' zs') (hn : n ≤ 17592186044416) (hn' : n' ≤ 17592186044416) :
    Calls Try.prog 30 #[.slice A n c, .slice A' n' c'] w fun e w' => e = .returned (.bool (decide (zs = zs'))) ∧ Still w w' := by
  go_enter Try.func30, Try.ntmps30
  go_wp2_with fail
  refine (same_any B B' A A' n n' c c' zs zs' _ h h' hn hn').mono ?_
  rintro e w' ⟨rfl, hst⟩
  go_wp2_with fail
  go_ret
  exact ⟨rfl, hst⟩
end Go.Proofs.Ytdfnacnklmmjhaa.Help

