/-
  Package record's mayBe, and its iterator over words, by their contracts. Conditions: numbers of 64 bits; at most 2^40 bytes.
-/
import Derived.Test.YtdfnacnklmmjhaaRc3
namespace Go.Proofs.Ytdfnacnklmmjhaa.Rc
open Go.RowKit Go.Shelf Go.Proofs.Ytdfnacnklmmjhaa.Mem Go.Proofs.Ytdfnacnklmmjhaa.Help Go.Proofs.Ytdfnacnklmmjhaa.Sum Go.Proofs.Ytdfnacnklmmjhaa.Po Go.Proofs.Ytdfnacnklmmjhaa.Ky Go.Proofs.Ytdfnacnklmmjhaa.Ct Go.Proofs.Ytdfnacnklmmjhaa.Bit Go.Proofs.Ytdfnacnklmmjhaa.Held Go.Proofs.Ytdfnacnklmmjhaa.Range Go.Proofs.Ytdfnacnklmmjhaa
set_option linter.unusedVariables false
attribute [local go_sem] Oper.semAt_some
attribute [local irreducible] wpList wpListIn Calls

theorem or_none {x y : Int} (hx : (Lit.int .u64 x).wf = true) (hy : (Lit.int .u64 y).wf = true) : (Lit.int .u64 (bits .or .u64 x y)).wf = true ∧ (bits .or .u64 x y = 0 ↔ x = 0 ∧ y = 0) := by
  have h1 := wf_u64 hx
  have h2 := wf_u64 hy
  rw [u64_or x y h1.1 (by omega) h2.1 (by omega)]
  have h3 : x.toNat ||| y.toNat < 2 ^ 64 := Nat.or_lt_two_pow (by omega) (by omega)
  have h4 : x.toNat ≤ x.toNat ||| y.toNat := Nat.left_le_or
  have h5 : y.toNat ≤ x.toNat ||| y.toNat := Nat.right_le_or
  refine ⟨wf_64 (by omega), fun h => by omega, fun ⟨h, k⟩ => ?_⟩
  subst h
  subst k
  rfl
/-- whether four numbers may be a record's -/
def may (n0 n1 n2 n3 : Int) : Bool := decide (n0 = 0) || (decide (n0 = 1) && decide (n1 = 0 ∧ n2 = 0 ∧ n3 = 0))
set_option maxRecDepth 100000 in
set_option maxHeartbeats 4000000 in
theorem mayBe_any (n0 n1 n2 n3 : Int) (hw : ∀ z ∈ [n0, n1, n2, n3], (Lit.int .u64 z).wf = true) (w : World) :
    Calls Try.prog 23 #[.agg (arr .u64 [n0, n1, n2, n3])] w fun e w' => e = .returned (.int .u64 (oneI (may n0 n1 n2 n3))) ∧ Below w.heap.size w w' := by
  have hn0 := hw n0 (by simp)
  have h12 := or_none (hw n1 (by simp)) (hw n2 (by simp))
  have h123 := or_none h12.1 (hw n3 (by simp))
  have hor : (Lit.int .u64 (bits .or .u64 (bits .or .u64 n1 n2) n3)).wf = true ∧ (bits .or .u64 (bits .or .u64 n1 n2) n3 = 0 ↔ n1 = 0 ∧ n2 = 0 ∧ n3 = 0) := ⟨h123.1, by rw [h123.2, h12.2, and_assoc]⟩
  clear h12 h123
  go_enter Try.func23, Try.ntmps23
  go_wp2_with (refine wpList_box_Row (w := w) rfl 43 _ rfl .u64 [n0, n1, n2, n3] rfl hw ?_; intro u1 r1 g1 z1)
  have bz : Below w.heap.size w u1 := (Below.refl _ w).grown g1 (Nat.le_refl _) (by simp)
  clear g1 z1
  refine wp_region_held (S := fun W => Below u1.heap.size u1 W) (by kernel_rfl) ?_
  change wpAnyH _ _ _ _ _ _ _ _ u1.drew
  have c0_0 := (Below.refl u1.heap.size u1).drew
  refine Held.take (v := .pointer (some ⟨w.heap.size, 0, none⟩)) 0 (some 3) rfl rfl (by kernel_rfl) (by kernel_rfl) (by kernel_rfl) (fun _ _ _ h => h) rfl (Held.y_addr rfl rfl rfl (fun W => Held.run_addr_arr 43 35 4 w.heap.size 0 .i64 Try.underlying43 (by kernel_rfl) (by omega) W)) c0_0 ?_
  simp only [Act.put, List.setIfInBounds_toArray, List.set_cons_zero, List.set_cons_succ]
  refine Held.take (v := .int .u64 n0) 1 (some 4) rfl rfl (by kernel_rfl) (by kernel_rfl) (by kernel_rfl) (fun _ _ _ h => h) rfl (Held.y_load rfl rfl (by kernel_rfl) (fun W hW => (Blk.of_row (r1.below hW r1.lt)).cell rfl)) c0_0 ?_
  simp only [Act.put, List.setIfInBounds_toArray, List.set_cons_zero, List.set_cons_succ]
  refine Held.take (v := .pointer (some ⟨w.heap.size, 0, none⟩)) 3 (some 6) rfl rfl (by kernel_rfl) (by kernel_rfl) (by kernel_rfl) (fun _ _ _ h => h) rfl (Held.y_addr rfl rfl rfl (fun W => Held.run_addr_arr 43 35 4 w.heap.size 0 .i64 Try.underlying43 (by kernel_rfl) (by omega) W)) c0_0 ?_
  simp only [Act.put, List.setIfInBounds_toArray, List.set_cons_zero, List.set_cons_succ]
  refine Held.take (v := .int .u64 n0) 4 (some 7) rfl rfl (by kernel_rfl) (by kernel_rfl) (by kernel_rfl) (fun _ _ _ h => h) rfl (Held.y_load rfl rfl (by kernel_rfl) (fun W hW => (Blk.of_row (r1.below hW r1.lt)).cell rfl)) c0_0 ?_
  simp only [Act.put, List.setIfInBounds_toArray, List.set_cons_zero, List.set_cons_succ]
  refine Held.take (v := .pointer (some ⟨w.heap.size, 1, none⟩)) 6 (some 9) rfl rfl (by kernel_rfl) (by kernel_rfl) (by kernel_rfl) (fun _ _ _ h => h) rfl (Held.y_addr rfl rfl rfl (fun W => Held.run_addr_arr 43 35 4 w.heap.size 1 .i64 Try.underlying43 (by kernel_rfl) (by omega) W)) c0_0 ?_
  simp only [Act.put, List.setIfInBounds_toArray, List.set_cons_zero, List.set_cons_succ]
  refine Held.take (v := .int .u64 n1) 7 (some 10) rfl rfl (by kernel_rfl) (by kernel_rfl) (by kernel_rfl) (fun _ _ _ h => h) rfl (Held.y_load rfl rfl (by kernel_rfl) (fun W hW => (Blk.of_row (r1.below hW r1.lt)).cell rfl)) c0_0 ?_
  simp only [Act.put, List.setIfInBounds_toArray, List.set_cons_zero, List.set_cons_succ]
  refine Held.take (v := .pointer (some ⟨w.heap.size, 2, none⟩)) 8 (some 11) rfl rfl (by kernel_rfl) (by kernel_rfl) (by kernel_rfl) (fun _ _ _ h => h) rfl (Held.y_addr rfl rfl rfl (fun W => Held.run_addr_arr 43 35 4 w.heap.size 2 .i64 Try.underlying43 (by kernel_rfl) (by omega) W)) c0_0 ?_
  simp only [Act.put, List.setIfInBounds_toArray, List.set_cons_zero, List.set_cons_succ]
  refine Held.take (v := .int .u64 n2) 9 (some 12) rfl rfl (by kernel_rfl) (by kernel_rfl) (by kernel_rfl) (fun _ _ _ h => h) rfl (Held.y_load rfl rfl (by kernel_rfl) (fun W hW => (Blk.of_row (r1.below hW r1.lt)).cell rfl)) c0_0 ?_
  simp only [Act.put, List.setIfInBounds_toArray, List.set_cons_zero, List.set_cons_succ]
  refine Held.take (v := .int .u64 (bits .or .u64 n1 n2)) 10 (some 13) rfl rfl (by kernel_rfl) (by kernel_rfl) (by kernel_rfl) (fun _ _ _ h => h) rfl (Held.y_int rfl rfl rfl (Held.run_bitop (by simp) 35 .u64 (rfl))) c0_0 ?_
  simp only [Act.put, List.setIfInBounds_toArray, List.set_cons_zero, List.set_cons_succ]
  refine Held.take (v := .pointer (some ⟨w.heap.size, 3, none⟩)) 11 (some 14) rfl rfl (by kernel_rfl) (by kernel_rfl) (by kernel_rfl) (fun _ _ _ h => h) rfl (Held.y_addr rfl rfl rfl (fun W => Held.run_addr_arr 43 35 4 w.heap.size 3 .i64 Try.underlying43 (by kernel_rfl) (by omega) W)) c0_0 ?_
  simp only [Act.put, List.setIfInBounds_toArray, List.set_cons_zero, List.set_cons_succ]
  refine Held.take (v := .int .u64 n3) 12 (some 15) rfl rfl (by kernel_rfl) (by kernel_rfl) (by kernel_rfl) (fun _ _ _ h => h) rfl (Held.y_load rfl rfl (by kernel_rfl) (fun W hW => (Blk.of_row (r1.below hW r1.lt)).cell rfl)) c0_0 ?_
  simp only [Act.put, List.setIfInBounds_toArray, List.set_cons_zero, List.set_cons_succ]
  refine Held.take (v := .int .u64 (bits .or .u64 ((bits .or .u64 n1 n2)) n3)) 13 (some 16) rfl rfl (by kernel_rfl) (by kernel_rfl) (by kernel_rfl) (fun _ _ _ h => h) rfl (Held.y_int rfl rfl rfl (Held.run_bitop (by simp) 35 .u64 (rfl))) c0_0 ?_
  simp only [Act.put, List.setIfInBounds_toArray, List.set_cons_zero, List.set_cons_succ]
  refine Held.one 2 (by kernel_rfl) ?_
  refine Held.op_call 2 (some 5) 32 #[.int .u64 n0, .int .u64 0] rfl rfl rfl rfl (enters_of Try.func32 (by kernel_rfl) rfl) (by simp [Act.eval])
    (same_b n0 0 hn0 rfl _) ?_
  rintro e w1 ⟨rfl, b1⟩
  have c0_1 := c0_0.trans (b1.mono c0_0.size)
  refine ⟨_, rfl, c0_1, ?_⟩
  simp only [Act.put, List.setIfInBounds_toArray, List.set_cons_zero, List.set_cons_succ]
  refine Held.one 5 (by kernel_rfl) ?_
  refine Held.op_call 5 (some 8) 32 #[.int .u64 n0, .int .u64 1] rfl rfl rfl rfl (enters_of Try.func32 (by kernel_rfl) rfl) (by simp [Act.eval])
    (same_b n0 1 hn0 rfl _) ?_
  rintro e w2 ⟨rfl, b2⟩
  have c0_2 := c0_1.trans (b2.mono c0_1.size)
  refine ⟨_, rfl, c0_2, ?_⟩
  simp only [Act.put, List.setIfInBounds_toArray, List.set_cons_zero, List.set_cons_succ]
  refine Held.one 14 (by kernel_rfl) ?_
  refine Held.op_call 14 (some 17) 32 #[.int .u64 (bits .or .u64 ((bits .or .u64 n1 n2)) n3), .int .u64 0] rfl rfl rfl rfl (enters_of Try.func32 (by kernel_rfl) rfl) (by simp [Act.eval])
    (same_b (bits .or .u64 ((bits .or .u64 n1 n2)) n3) 0 hor.1 rfl _) ?_
  rintro e w3 ⟨rfl, b3⟩
  have c0_3 := c0_2.trans (b3.mono c0_2.size)
  refine ⟨_, rfl, c0_3, ?_⟩
  simp only [Act.put, List.setIfInBounds_toArray, List.set_cons_zero, List.set_cons_succ]
  refine Held.take (v := .int .u64 (bits .and .u64 ((oneI (decide (n0 = 1)))) ((oneI (decide ((bits .or .u64 ((bits .or .u64 n1 n2)) n3) = 0)))))) 15 (some 18) rfl rfl (by kernel_rfl) (by kernel_rfl) (by kernel_rfl) (fun _ _ _ h => h) rfl (Held.y_int rfl rfl rfl (Held.run_bitop (by simp) 35 .u64 (rfl))) c0_3 ?_
  simp only [Act.put, List.setIfInBounds_toArray, List.set_cons_zero, List.set_cons_succ]
  refine Held.take (v := .int .u64 (bits .or .u64 ((oneI (decide (n0 = 0)))) ((bits .and .u64 ((oneI (decide (n0 = 1)))) ((oneI (decide ((bits .or .u64 ((bits .or .u64 n1 n2)) n3) = 0)))))))) 16 (some 19) rfl rfl (by kernel_rfl) (by kernel_rfl) (by kernel_rfl) (fun _ _ _ h => h) rfl (Held.y_int rfl rfl rfl (Held.run_bitop (by simp) 35 .u64 (rfl))) c0_3 ?_
  simp only [Act.put, List.setIfInBounds_toArray, List.set_cons_zero, List.set_cons_succ]
  refine Held.take (v := .int .u64 (bits .or .u64 ((oneI (decide (n0 = 0)))) ((bits .and .u64 ((oneI (decide (n0 = 1)))) ((oneI (decide ((bits .or .u64 ((bits .or .u64 n1 n2)) n3) = 0)))))))) 17 (some 2) rfl rfl (by kernel_rfl) (by kernel_rfl) (by kernel_rfl) (fun _ _ _ h => h) rfl (Held.y_assign rfl rfl) c0_3 ?_
  simp only [Act.put, List.setIfInBounds_toArray, List.set_cons_zero, List.set_cons_succ]
  refine wpAnyH_done (by kernel_rfl) ?_ _
  rw [and_one_, or_one]
  have dz := bz.trans (c0_3.mono bz.size)
  go_wp2_with fail
  go_ret
  exact ⟨Mem.ret_int (by rw [decide_eq_decide.2 hor.2]; rfl), dz⟩

theorem words_any (A : Option Addr) (m c : Nat) (w : World) :
    Calls Try.prog 21 #[.slice A m c] w fun e w' => ∃ bx : Nat, e = .returned (.func (.func 36) #[] #[.pointer (some ⟨bx, 0, none⟩)]) ∧ Blk w' bx 24 #[.slice A m c] ∧ w.heap.size ≤ bx ∧ Below w.heap.size w w' := by
  go_enter Try.func21, Try.ntmps21
  go_wp2_with (refine Held.wpList_box_cell (w := w) rfl 24 _ rfl (.slice A m c) rfl rfl ?_; intro u1 q1 g1 z1)
  go_ret
  exact ⟨_, rfl, q1, Nat.le_refl _, (Below.refl _ w).grown g1 (Nat.le_refl _) (by simp)⟩

/-- a word is handed out: which it is, and where its bytes lie -/
def Word (g off c : Nat) (x : Nat) (B0 : Nat) (W : World) (args : Array Value) : Prop := args = #[.int .i64 (x : Int), .slice (some ⟨g, off + 8 * x, none⟩) 8 (c - 8 * x)]
theorem range_prefix {n k : Nat} (hk : k < n) : (List.range n).take k ++ [k] = (List.range n).take (k + 1) := by
  rw [List.take_succ_eq_append_getElem (by simpa using hk), List.getElem_range]
theorem prefix_range {pre : List Nat} {x n : Nat} (h : (pre ++ [x]) <+: List.range n) : x = pre.length ∧ x < n := by
  have hl := h.length_le
  simp only [List.length_append, List.length_singleton, List.length_range] at hl
  have e := h.getElem (i := pre.length) (by simp)
  simp only [List.getElem_append_right (Nat.le_refl _), Nat.sub_self, List.getElem_singleton, List.getElem_range] at e
  omega
set_option maxRecDepth 100000 in
set_option maxHeartbeats 4000000 in
theorem words_give (n bx : Nat) (S : Nat → Prop) (g off m c : Nat) (w : World) (hbx : w.cell? ⟨bx, 0, none⟩ = some (.slice (some ⟨g, off, none⟩) m c)) (hbS : ¬ S bx) (hmc : m ≤ c) (hm : c ≤ 1099511627776) :
    SeqGive Fence.wide n Try.prog 36 #[.pointer (some ⟨bx, 0, none⟩)] (Word g off c) (Only S) (List.range (m / 8)) w := by
  intro l J W hW hJ hY h0
  have kbx := (hW.cell (p := ⟨bx, 0, none⟩) (World.block_lt_of_cell? w _ hbx)).trans hbx
  have hmi : (m : Int) ≤ 1099511627776 := by omega
  clear hbx
  refine callsIn_of_wp Try.func36 rfl trivial ?_ rfl
  simp only [Try.ntmps36, List.size_toArray, List.length_cons, List.length_nil, Nat.reduceAdd, Nat.reduceSub, Array.replicate_succ, Array.replicate_zero, List.push_toArray, List.append_toArray, List.nil_append, List.cons_append]
  have hm8 : m / 8 * 8 ≤ m := by omega
  gi_wp2_with fail
  gi_loopw [7] (fun i wr => ∃ k : Nat, k ≤ m / 8 ∧ i = .int .i64 k ∧ J ((List.range (m / 8)).take k) wr ∧ Only S W wr) (fun i _ => m / 8 - (intOf i).toNat)
  case atStart => exact ⟨0, by omega, rfl, by simpa using h0, Only.refl _ _⟩
  case round =>
    obtain ⟨k, hk, rfl, Jk, ok⟩ := hrel
    by_cases hlt : k < m / 8
    · have kb := ok.cell (p := ⟨bx, 0, none⟩) hbS kbx
      have HP := Lib.hid (range_prefix hlt)
      have hpre : (List.range (m / 8)).take k ++ [k] <+: List.range (m / 8) := by rw [HP.out]; exact List.take_prefix _ _
      have hlt' : (k : Int) < (m : Int) / 8 := by omega
      have hk0 : (0 : Int) ≤ (k : Int) := by omega
      obtain ⟨fn, tmps, assign, body, hy, hR⟩ := hY ((List.range (m / 8)).take k) k #[.int .i64 (k : Int), .slice (some ⟨g, off + 8 * k, none⟩) (8 * (k + 1) - 8 * k) (c - 8 * k)] wr wr Jk (World.grownBy.refl _ _) (by unfold Word; rw [show 8 * (k + 1) - 8 * k = 8 by omega]) hpre
      clear hpre
      gi_wp2_with fail
      refine ⟨fun h => (by cases h), ?_⟩
      refine hR.mono ?_
      rintro e W4 ⟨rfl, J4, o4⟩
      rw [HP.out] at J4
      clear hR hy
      gi_wp2_with fail
      go_roundw
      case rel => exact ⟨k + 1, by omega, by go_num, J4, ok.trans o4⟩
      case measure => simp [intOf]; omega
    · have hkm : k = m / 8 := by omega
      subst hkm
      rw [List.take_of_length_le (by simp)] at Jk
      gi_wp2_with fail
      go_end0
      exact ⟨⟨_, rfl⟩, Jk⟩
end Go.Proofs.Ytdfnacnklmmjhaa.Rc

