/-
  Package record's words, put, number and mayBe, by their contracts.
  Package record's mayBe, and its iterator over words, by their contracts.
  Package record's Pack and Take, by their contracts.
  Records as plain things, lists of them in memory, cell by cell; a call of a function value within a region that draws its order: no program here but the type of a record.
-/
import Derived.Test.YtjelacblnjbfgaaGreatDoorB11
import Derived.Lib.EndianBits
import Derived.Lib.BufferOwn
import Derived.Test.YtjelacblnjbfgaaGreatDoorB10
import Derived.Deep.MidRow
set_option linter.unusedVariables false
namespace Go.Proofs.YtjelacblnjbfgaaGreatDoor.Rc
open Go.RowKit Go.Shelf Go.Proofs.YtjelacblnjbfgaaGreatDoor Mem Help Go.Proofs.YtjelacblnjbfgaaGreatDoor.Sum Po Ky Ct Go.Proofs.YtjelacblnjbfgaaGreatDoor.Bit Held Go.Proofs.YtjelacblnjbfgaaGreatDoor.Range
attribute [local go_sem] Oper.semAt_some
attribute [local irreducible] wpList wpListIn Calls
theorem dig_snoc : ∀ (k : Nat) (x : Int), digits x (k + 1) = digits x k ++ [x / 2 ^ (8 * k) % 256]
  | 0, x => by simp [digits]
  | k + 1, x => by
    rw [digits, dig_snoc k (x / 256), digits, List.cons_append]
    congr 2
    rw [show (2 : Int) ^ (8 * (k + 1)) = 256 * 2 ^ (8 * k) by rw [show 8 * (k + 1) = 8 * k + 8 by omega, Int.pow_add]; omega, Int.ediv_ediv_of_nonneg (by omega)]
theorem eig_snoc (pre : List Int) (x : Int) : eights (pre ++ [x]) = eights pre ++ digits x 8 := by simp [eights]
theorem laid_snoc (cur : List Int) (off : Nat) (xs : List Int) (z : Int) (h : off + xs.length < cur.length) : (laidOver cur off xs).set (off + xs.length) z = laidOver cur off (xs ++ [z]) := by
  have ht : (cur.take off).length = off := by simp; omega
  unfold laidOver
  rw [List.set_append_right _ _ (by omega), ht, show off + xs.length - off = xs.length by omega, List.set_append_right _ _ (by omega), Nat.sub_self, List.drop_eq_getElem_cons h, List.set_cons_zero, List.length_append, List.length_singleton, List.append_assoc]
  simp [Nat.add_assoc]
theorem run_midO {P : Program} {t e : TypeId} (ht : P.underlying t = some (.slice e)) (hs : (P.info? e).map (·.size) = some 1) (g o n : Nat) {cap l h : Nat} (hl : l ≤ h) (hh : h ≤ cap) (hlc : l < cap) (w : World) :
    (Instr.sliceAt t (.slice (some ⟨g, o, none⟩) n cap) (some (.int .i64 (l : Int))) (some (.int .i64 (h : Int))) none).run P w = .ok (.slice (some ⟨g, o + l, none⟩) (h - l) (cap - l)) w := by
  have he : P.elem t = e := by simp [Program.elem, ht]
  have ht' : P.underlying t = some (.slice (P.elem t)) := by rw [he]; exact ht
  obtain ⟨inf, hi, h1⟩ := Option.map_eq_some_iff.1 hs
  rw [run_sliceAt_slice w t _ _ _ _ ht', run_slice_lh w t (some ⟨g, o, none⟩) n cap ht' .i64 .i64 _ _ (by omega) (by omega) (by omega), he]
  have hz : (sizeOf e).run P w = .ok 1 w := by simp [sizeOf, typeInfo, hi, h1]
  have hne : ¬ cap = l := by omega
  rw [hz]
  simp [Result.andThen, sliced, Addr.add, hne]
theorem val_eight {s : List Int} (h : Bs s) {q : Nat} (hq : q < 8) (hl : q < s.length) : 0 ≤ val (s.take q) ∧ val (s.take q) < 2 ^ (8 * q) ∧ bits .or .u64 (val (s.take q)) (IntKind.u64.wrap (s.getD q 0 * 2 ^ (8 * q))) = val (s.take (q + 1)) := by
  have h0 := val_nonneg (xs := s.take q) fun z hz => (h z (List.mem_of_mem_take hz)).1
  have h1 := val_lt (xs := s.take q) fun z hz => h z (List.mem_of_mem_take hz)
  have hlt : (s.take q).length = q := by simp; omega
  rw [hlt] at h1
  have hv := val_take_succ s (j := q) (by omega)
  have hb := h.at_ q
  have e : (256 : Int) ^ q = 2 ^ (8 * q) := by rw [Int.pow_mul]; rfl
  rw [e] at h1 hv
  refine ⟨h0, h1, ?_⟩
  rw [hv]
  generalize val (s.take q) = v at *
  generalize s.getD q 0 = x at *
  rcases (show q = 0 ∨ q = 1 ∨ q = 2 ∨ q = 3 ∨ q = 4 ∨ q = 5 ∨ q = 6 ∨ q = 7 by omega) with rfl | rfl | rfl | rfl | rfl | rfl | rfl | rfl <;>
    · simp only [Nat.reduceMul] at h1 ⊢
      rw [wraps_u64 _ (by omega) (by omega)]
      exact bits_join_low .u64 64 (by decide) (fun n h1 h2 => wraps_u64 n h1 h2) _ v (x * _) h0 h1 (by omega) (by omega) (by omega) (by omega)
theorem run_shl_ {P : Program} (t : TypeId) (k k' : IntKind) {a : Int} (n : Nat) (hn : n ≤ k.bits) (w : World) : (binOp .shl t (.int k a) (.int k' (n : Int))).run P w = .ok (.int k (k.wrap (a * 2 ^ n))) w := by
  rw [binOp_shl, shift_shl k k' a (n : Int) (by omega) (by omega), Int.toNat_natCast]
  rfl
theorem wpList_shl {P : Program} {ops : Array Oper} {rest : List Oper} {o : Oper} {a : Act} {w : World} {Q : Exit → Act → World → Prop} (hgd : o.guard = none) (t u : TypeId) (x y : Operand) (ho : o.op = .binOp .shl t x y u) (k k' : IntKind) (v r : Int) (n : Nat) (hx : a.eval x = .int k v) (hy : a.eval y = .int k' (n : Int))
    (hr : ∀ W : World, (binOp .shl t (.int k v) (.int k' (n : Int))).run P W = .ok (.int k r) W) (h : wpList P ops Q rest (a.put o.dst (.int k r)) w) : wpList P ops Q (o :: rest) a w := by
  refine wpList_plain hgd fun K hK => ?_
  unfold Oper.wp execOp
  simp [ho, hx, hy, hr]
  exact hK _ _ h
theorem size_u8 : (Tryz.prog.info? 5).map (·.size) = some 1 := by kernel_rfl
theorem bs_of {zs : List Int} (h : ∀ z ∈ zs, (Lit.int .u8 z).wf = true) : Bs zs := fun z hz => wf_u8 (h z hz)
set_option maxRecDepth 100000 in
set_option maxHeartbeats 2000000 in
theorem put_any (g off m c : Nat) (n : Int) (t : TypeId) (zs : List Int) (w : World) (hr : Row w g t .u8 zs) (hm : m ≤ 8) (hfit : off + m ≤ zs.length) :
    Calls Tryz.prog 55 #[.slice (some ⟨g, off, none⟩) m c, .int .u64 n] w fun e w' => e = .returned (.tuple #[]) ∧ Row w' g t .u8 (laidOver zs off (digits n m)) ∧ w.grownBy w' (some g) := by
  have HF := Lib.hid hfit
  go_enter Tryz.func55, Tryz.ntmps55
  go_wp2_with fail
  go_loopw [7] (fun i wr => ∃ k : Nat, k ≤ m ∧ i = .int .i64 k ∧ Row wr g t .u8 (laidOver zs off (digits n k)) ∧ w.grownBy wr (some g)) (fun i _ => m - (intOf i).toNat)
  case atStart => exact ⟨0, by omega, rfl, by rw [show digits n 0 = [] from rfl, laidOver_nil]; exact hr, World.grownBy.refl _ _⟩
  case round =>
    clear hr
    obtain ⟨k, hk, rfl, rk, gk⟩ := hrel
    by_cases hlt : k < m
    · have hlt' : (k : Int) < (m : Int) := by omega
      have hk0 : (0 : Int) ≤ (k : Int) := by omega
      have HS := Lib.hid (show (laidOver zs off (digits n k)).set (off + k) (n / 2 ^ (8 * k) % 256) = laidOver zs off (digits n (k + 1)) by
        have := laid_snoc zs off (digits n k) (n / 2 ^ (8 * k) % 256) (by rw [digits_length]; omega)
        rw [digits_length] at this
        rw [dig_snoc, this])
      have HL := Lib.hid (show off + k < (laidOver zs off (digits n k)).length by rw [laidOver_length _ _ _ (by rw [digits_length]; omega)]; omega)
      have hmul : IntKind.i64.wrap (8 * (k : Int)) = ((8 * k : Nat) : Int) := by rw [IntKind.wrap_i64]; omega
      obtain ⟨q, hq⟩ : ∃ q, n / 2 ^ (8 * k) = q := ⟨_, rfl⟩
      rw [hq] at HS
      have HQ := Lib.hid hq
      have hcv : IntKind.u8.wrap q = q % 256 := by rw [IntKind.wrap_u8]
      have hwz : (Lit.int .u8 (q % 256)).wf = true := wf_byte (by omega)
      generalize q % 256 = z at HS hcv hwz
      clear hq
      go_wp2_with (first
        | (refine Held.wpList_shr rfl 23 3 _ _ rfl .u64 .i64 n q (8 * k) rfl (by simp [Act.eval]) (by simp [IntKind.bits]; omega) HQ.out ?_)
        | (refine wpList_store_elem (w := wr) rfl 5 _ _ rfl g (off + k) rfl t .u8 _ z rfl rk HL.out size_u8 hwz ?_; intro w2 r2 g2 z2))
      rw [HS.out] at r2
      go_roundw
      case rel => exact ⟨k + 1, by omega, by go_num, r2, Lib.grownBy_trans gk g2⟩
      case measure => simp [intOf]; omega
    · have hkm : k = m := by omega
      subst hkm
      go_wp2_with fail
      go_end0
      exact ⟨rfl, rk, gk⟩
set_option maxRecDepth 100000 in
set_option maxHeartbeats 2000000 in
theorem number_any (B : Nat) (A : Option Addr) (m c : Nat) (zs : List Int) (w : World) (h : Ints w .u8 B A m zs) (hm : m ≤ 8) :
    Calls Tryz.prog 98 #[.slice A m c] w fun e w' => e = .returned (.int .u64 (val zs)) ∧ w = w' := by
  have HL := Lib.hid h.1
  have HB := Lib.hid (bs_of h.2.1)
  go_enter Tryz.func98, Tryz.ntmps98
  go_wp2_with fail
  go_loop [3, 8] (fun v i => ∃ k : Nat, k ≤ m ∧ i = .int .i64 k ∧ v = .int .u64 (val (zs.take k))) (fun _ i => m - (intOf i).toNat)
  case atStart => exact ⟨0, by omega, rfl, by simp [val]⟩
  case round =>
    obtain ⟨k, hk, rfl, rfl⟩ := hrel
    by_cases hlt : k < m
    · obtain ⟨b, off, rfl, hb, hc⟩ := h.at_ hlt
      have hlt' : (k : Int) < (m : Int) := by omega
      have hk0 : (0 : Int) ≤ (k : Int) := by omega
      have HV := Lib.hid (val_eight HB.out (q := k) (by omega) (by rw [HL.out]; exact hlt)).2.2
      have hz := wf_u8 (h.range hlt)
      generalize zs.getD k 0 = z at hc HV hz
      generalize val (zs.take k) = v at HV
      have hcv : IntKind.u64.wrap z = z := IntWalk.u64_in _ (by omega)
      have hmul : IntKind.i64.wrap (8 * (k : Int)) = ((8 * k : Nat) : Int) := by rw [IntKind.wrap_i64]; omega
      have hsh : ∀ W : World, (binOp .shl 23 (.int .u64 z) (.int .i64 ((8 * k : Nat) : Int))).run Tryz.prog W = .ok (.int .u64 (IntKind.u64.wrap (z * 2 ^ (8 * k)))) W := run_shl_ 23 .u64 .i64 (8 * k) (by show 8 * k ≤ 64; omega)
      generalize IntKind.u64.wrap (z * 2 ^ (8 * k)) = y at HV hsh
      clear h hz
      go_wp2_with (refine wpList_shl rfl 23 3 _ _ rfl .u64 .i64 z y (8 * k) rfl (by simp [Act.eval]) hsh ?_)
      go_round
      case rel => exact ⟨k + 1, by omega, by go_num, by rw [HV.out]⟩
      case measure => simp [intOf]; omega
    · have hkm : k = m := by omega
      subst hkm
      have HT := Lib.hid (show val (zs.take k) = val zs by rw [List.take_of_length_le (by rw [HL.out]; omega)])
      go_wp2_with fail
      go_ret
      exact ⟨Mem.ret_int HT.out, rfl⟩
end Go.Proofs.YtjelacblnjbfgaaGreatDoor.Rc
namespace Go.Proofs.YtjelacblnjbfgaaGreatDoor.Rc
open Go.RowKit Go.Shelf Go.Proofs.YtjelacblnjbfgaaGreatDoor Mem Help Go.Proofs.YtjelacblnjbfgaaGreatDoor.Sum Po Ky Ct Go.Proofs.YtjelacblnjbfgaaGreatDoor.Bit Held Go.Proofs.YtjelacblnjbfgaaGreatDoor.Range
attribute [local go_sem] Oper.semAt_some
attribute [local irreducible] wpList wpListIn Calls
theorem or_none {x y : Int} (hx : (Lit.int .u64 x).wf = true) (hy : (Lit.int .u64 y).wf = true) : (Lit.int .u64 (bits .or .u64 x y)).wf = true ∧ (bits .or .u64 x y = 0 ↔ x = 0 ∧ y = 0) := by
  have h1 := wf_u64 hx
  have h2 := wf_u64 hy
  rw [u64_or x y h1.1 (by omega) h2.1 (by omega)]
  have h3 : x.toNat ||| y.toNat < 2 ^ 64 := Nat.or_lt_two_pow (by omega) (by omega)
  have h4 : x.toNat ≤ x.toNat ||| y.toNat := Nat.left_le_or
  have h5 : y.toNat ≤ x.toNat ||| y.toNat := Nat.right_le_or
  refine ⟨wf_64 (by omega), fun h => by omega, fun ⟨h, k⟩ => ?_⟩
  subst h
  subst k
  rfl
def may (n0 n1 n2 n3 : Int) : Bool := decide (n0 = 0) || (decide (n0 = 1) && decide (n1 = 0 ∧ n2 = 0 ∧ n3 = 0))
set_option maxRecDepth 100000 in
set_option maxHeartbeats 4000000 in
theorem mayBe_any (n0 n1 n2 n3 : Int) (hw : ∀ z ∈ [n0, n1, n2, n3], (Lit.int .u64 z).wf = true) (w : World) :
    Calls Tryz.prog 99 #[.agg (arr .u64 [n0, n1, n2, n3])] w fun e w' => e = .returned (.int .u64 (oneI (may n0 n1 n2 n3))) ∧ Below w.heap.size w w' := by
  have hn0 := hw n0 (by simp)
  have h12 := or_none (hw n1 (by simp)) (hw n2 (by simp))
  have h123 := or_none h12.1 (hw n3 (by simp))
  have hor : (Lit.int .u64 (bits .or .u64 (bits .or .u64 n1 n2) n3)).wf = true ∧ (bits .or .u64 (bits .or .u64 n1 n2) n3 = 0 ↔ n1 = 0 ∧ n2 = 0 ∧ n3 = 0) := ⟨h123.1, by rw [h123.2, h12.2, and_assoc]⟩
  clear h12 h123
  go_enter Tryz.func99, Tryz.ntmps99
  go_wp2_with (refine wpList_box_Row (w := w) rfl 77 _ rfl .u64 [n0, n1, n2, n3] rfl hw ?_; intro u1 r1 g1 z1)
  have bz : Below w.heap.size w u1 := (Below.refl _ w).grown g1 (Nat.le_refl _) (by simp)
  clear g1 z1
  refine wp_region_held (S := fun W => Below u1.heap.size u1 W) (by kernel_rfl) ?_
  change wpAnyH _ _ _ _ _ _ _ _ u1.drew
  have c0_0 := (Below.refl u1.heap.size u1).drew
  refine Held.tk (v := .pointer (some ⟨w.heap.size, 0, none⟩)) 0 (some 3) rfl (Held.y_addr rfl rfl rfl (fun W => Held.run_addr_arr 77 23 4 w.heap.size 0 .i64 Tryz.underlying77 (by kernel_rfl) (by omega) W)) c0_0 ?_
  simp only [Act.put, Z1, Z2, Z3]
  refine Held.tk (v := .int .u64 n0) 1 (some 4) rfl (Held.y_load rfl rfl (by kernel_rfl) (fun W hW => (Blk.of_row (r1.below hW r1.lt)).cell rfl)) c0_0 ?_
  simp only [Act.put, Z1, Z2, Z3]
  refine Held.tk (v := .pointer (some ⟨w.heap.size, 0, none⟩)) 3 (some 6) rfl (Held.y_addr rfl rfl rfl (fun W => Held.run_addr_arr 77 23 4 w.heap.size 0 .i64 Tryz.underlying77 (by kernel_rfl) (by omega) W)) c0_0 ?_
  simp only [Act.put, Z1, Z2, Z3]
  refine Held.tk (v := .int .u64 n0) 4 (some 7) rfl (Held.y_load rfl rfl (by kernel_rfl) (fun W hW => (Blk.of_row (r1.below hW r1.lt)).cell rfl)) c0_0 ?_
  simp only [Act.put, Z1, Z2, Z3]
  refine Held.tk (v := .pointer (some ⟨w.heap.size, 1, none⟩)) 6 (some 9) rfl (Held.y_addr rfl rfl rfl (fun W => Held.run_addr_arr 77 23 4 w.heap.size 1 .i64 Tryz.underlying77 (by kernel_rfl) (by omega) W)) c0_0 ?_
  simp only [Act.put, Z1, Z2, Z3]
  refine Held.tk (v := .int .u64 n1) 7 (some 10) rfl (Held.y_load rfl rfl (by kernel_rfl) (fun W hW => (Blk.of_row (r1.below hW r1.lt)).cell rfl)) c0_0 ?_
  simp only [Act.put, Z1, Z2, Z3]
  refine Held.tk (v := .pointer (some ⟨w.heap.size, 2, none⟩)) 8 (some 11) rfl (Held.y_addr rfl rfl rfl (fun W => Held.run_addr_arr 77 23 4 w.heap.size 2 .i64 Tryz.underlying77 (by kernel_rfl) (by omega) W)) c0_0 ?_
  simp only [Act.put, Z1, Z2, Z3]
  refine Held.tk (v := .int .u64 n2) 9 (some 12) rfl (Held.y_load rfl rfl (by kernel_rfl) (fun W hW => (Blk.of_row (r1.below hW r1.lt)).cell rfl)) c0_0 ?_
  simp only [Act.put, Z1, Z2, Z3]
  refine Held.tk (v := .int .u64 (bits .or .u64 n1 n2)) 10 (some 13) rfl (Held.y_int rfl rfl rfl (Held.run_bitop (by simp) 23 .u64 (rfl))) c0_0 ?_
  simp only [Act.put, Z1, Z2, Z3]
  refine Held.tk (v := .pointer (some ⟨w.heap.size, 3, none⟩)) 11 (some 14) rfl (Held.y_addr rfl rfl rfl (fun W => Held.run_addr_arr 77 23 4 w.heap.size 3 .i64 Tryz.underlying77 (by kernel_rfl) (by omega) W)) c0_0 ?_
  simp only [Act.put, Z1, Z2, Z3]
  refine Held.tk (v := .int .u64 n3) 12 (some 15) rfl (Held.y_load rfl rfl (by kernel_rfl) (fun W hW => (Blk.of_row (r1.below hW r1.lt)).cell rfl)) c0_0 ?_
  simp only [Act.put, Z1, Z2, Z3]
  refine Held.tk (v := .int .u64 (bits .or .u64 ((bits .or .u64 n1 n2)) n3)) 13 (some 16) rfl (Held.y_int rfl rfl rfl (Held.run_bitop (by simp) 23 .u64 (rfl))) c0_0 ?_
  simp only [Act.put, Z1, Z2, Z3]
  refine Held.one 2 (by kernel_rfl) ?_
  refine Held.op_call 2 (some 5) 70 #[.int .u64 n0, .int .u64 0] rfl rfl rfl rfl (enters_of Tryz.func70 (by kernel_rfl) rfl) (by simp [Act.eval])
    (same_b n0 0 hn0 rfl _) ?_
  rintro e w1 ⟨rfl, b1⟩
  have c0_1 := c0_0.trans (b1.mono c0_0.size)
  refine ⟨_, rfl, c0_1, ?_⟩
  simp only [Act.put, Z1, Z2, Z3]
  refine Held.one 5 (by kernel_rfl) ?_
  refine Held.op_call 5 (some 8) 70 #[.int .u64 n0, .int .u64 1] rfl rfl rfl rfl (enters_of Tryz.func70 (by kernel_rfl) rfl) (by simp [Act.eval])
    (same_b n0 1 hn0 rfl _) ?_
  rintro e w2 ⟨rfl, b2⟩
  have c0_2 := c0_1.trans (b2.mono c0_1.size)
  refine ⟨_, rfl, c0_2, ?_⟩
  simp only [Act.put, Z1, Z2, Z3]
  refine Held.one 14 (by kernel_rfl) ?_
  refine Held.op_call 14 (some 17) 70 #[.int .u64 (bits .or .u64 ((bits .or .u64 n1 n2)) n3), .int .u64 0] rfl rfl rfl rfl (enters_of Tryz.func70 (by kernel_rfl) rfl) (by simp [Act.eval])
    (same_b (bits .or .u64 ((bits .or .u64 n1 n2)) n3) 0 hor.1 rfl _) ?_
  rintro e w3 ⟨rfl, b3⟩
  have c0_3 := c0_2.trans (b3.mono c0_2.size)
  refine ⟨_, rfl, c0_3, ?_⟩
  simp only [Act.put, Z1, Z2, Z3]
  refine Held.take (v := .int .u64 (bits .and .u64 ((oneI (decide (n0 = 1)))) ((oneI (decide ((bits .or .u64 ((bits .or .u64 n1 n2)) n3) = 0)))))) 15 (some 18) rfl rfl (by kernel_rfl) (by kernel_rfl) (by kernel_rfl) (fun _ _ _ h => h) rfl (Held.y_int rfl rfl rfl (Held.run_bitop (by simp) 23 .u64 (rfl))) c0_3 ?_
  simp only [Act.put, Z1, Z2, Z3]
  refine Held.take (v := .int .u64 (bits .or .u64 ((oneI (decide (n0 = 0)))) ((bits .and .u64 ((oneI (decide (n0 = 1)))) ((oneI (decide ((bits .or .u64 ((bits .or .u64 n1 n2)) n3) = 0)))))))) 16 (some 19) rfl rfl (by kernel_rfl) (by kernel_rfl) (by kernel_rfl) (fun _ _ _ h => h) rfl (Held.y_int rfl rfl rfl (Held.run_bitop (by simp) 23 .u64 (rfl))) c0_3 ?_
  simp only [Act.put, Z1, Z2, Z3]
  refine Held.take (v := .int .u64 (bits .or .u64 ((oneI (decide (n0 = 0)))) ((bits .and .u64 ((oneI (decide (n0 = 1)))) ((oneI (decide ((bits .or .u64 ((bits .or .u64 n1 n2)) n3) = 0)))))))) 17 (some 2) rfl rfl (by kernel_rfl) (by kernel_rfl) (by kernel_rfl) (fun _ _ _ h => h) rfl (Held.y_assign rfl rfl) c0_3 ?_
  simp only [Act.put, Z1, Z2, Z3]
  refine wpAnyH_done (by kernel_rfl) ?_ _
  rw [and_one_, or_one]
  have dz := bz.trans (c0_3.mono bz.size)
  go_wp2_with fail
  go_ret
  exact ⟨Mem.ret_int (by rw [decide_eq_decide.2 hor.2]; rfl), dz⟩
theorem words_any (A : Option Addr) (m c : Nat) (w : World) :
    Calls Tryz.prog 54 #[.slice A m c] w fun e w' => ∃ bx : Nat, e = .returned (.func (.func 76) #[] #[.pointer (some ⟨bx, 0, none⟩)]) ∧ Blk w' bx 27 #[.slice A m c] ∧ w.heap.size ≤ bx ∧ Below w.heap.size w w' := by
  go_enter Tryz.func54, Tryz.ntmps54
  go_wp2_with (refine Held.wpList_box_cell (w := w) rfl 27 _ rfl (.slice A m c) rfl rfl ?_; intro u1 q1 g1 z1)
  go_ret
  exact ⟨_, rfl, q1, Nat.le_refl _, (Below.refl _ w).grown g1 (Nat.le_refl _) (by simp)⟩
def Word (g off c : Nat) (x : Nat) (B0 : Nat) (W : World) (args : Array Value) : Prop := args = #[.int .i64 (x : Int), .slice (some ⟨g, off + 8 * x, none⟩) 8 (c - 8 * x)]
theorem range_prefix {n k : Nat} (hk : k < n) : (List.range n).take k ++ [k] = (List.range n).take (k + 1) := by
  rw [List.take_succ_eq_append_getElem (by simpa using hk), List.getElem_range]
theorem prefix_range {pre : List Nat} {x n : Nat} (h : (pre ++ [x]) <+: List.range n) : x = pre.length ∧ x < n := by
  have hl := h.length_le
  simp only [List.length_append, List.length_singleton, List.length_range] at hl
  have e := h.getElem (i := pre.length) (by simp)
  simp only [List.getElem_append_right (Nat.le_refl _), Nat.sub_self, List.getElem_singleton, List.getElem_range] at e
  omega
set_option maxRecDepth 100000 in
set_option maxHeartbeats 4000000 in
theorem words_give (n bx : Nat) (S : Nat → Prop) (g off m c : Nat) (w : World) (hbx : w.cell? ⟨bx, 0, none⟩ = some (.slice (some ⟨g, off, none⟩) m c)) (hbS : ¬ S bx) (hmc : m ≤ c) (hm : m ≤ 1099511627776) :
    SeqGive Fence.wide n Tryz.prog 76 #[.pointer (some ⟨bx, 0, none⟩)] (Word g off c) (Only S) (List.range (m / 8)) w := by
  intro l J W hW hJ hY h0
  have kbx := (hW.cell (p := ⟨bx, 0, none⟩) (World.block_lt_of_cell? w _ hbx)).trans hbx
  have hmi : (m : Int) ≤ 1099511627776 := by omega
  clear hbx
  refine callsIn_of_wp Tryz.func76 rfl trivial ?_ rfl
  simp only [Tryz.ntmps76, List.size_toArray, List.length_cons, List.length_nil, Nat.reduceAdd, Nat.reduceSub, Array.replicate_succ, Array.replicate_zero, List.push_toArray, List.append_toArray, List.nil_append, List.cons_append]
  have hm8 : m / 8 * 8 ≤ m := by omega
  gi_wp2_with fail
  gi_loopw [7] (fun i wr => ∃ k : Nat, k ≤ m / 8 ∧ i = .int .i64 k ∧ J ((List.range (m / 8)).take k) wr ∧ Only S W wr) (fun i _ => m / 8 - (intOf i).toNat)
  case atStart => exact ⟨0, by omega, rfl, by simpa using h0, Only.refl _ _⟩
  case round =>
    obtain ⟨k, hk, rfl, Jk, ok⟩ := hrel
    by_cases hlt : k < m / 8
    · have kb := ok.cell (p := ⟨bx, 0, none⟩) hbS kbx
      have HP := Lib.hid (range_prefix hlt)
      have hpre : (List.range (m / 8)).take k ++ [k] <+: List.range (m / 8) := by rw [HP.out]; exact List.take_prefix _ _
      have hlt' : (k : Int) < (m : Int) / 8 := by omega
      have hk0 : (0 : Int) ≤ (k : Int) := by omega
      obtain ⟨fn, tmps, assign, body, hy, hR⟩ := hY ((List.range (m / 8)).take k) k #[.int .i64 (k : Int), .slice (some ⟨g, off + 8 * k, none⟩) (8 * (k + 1) - 8 * k) (c - 8 * k)] wr wr Jk (World.grownBy.refl _ _) (by unfold Word; rw [show 8 * (k + 1) - 8 * k = 8 by omega]) hpre
      clear hpre
      gi_wp2_with fail
      refine ⟨fun h => (by cases h), ?_⟩
      refine hR.mono ?_
      rintro e W4 ⟨rfl, J4, o4⟩
      rw [HP.out] at J4
      clear hR hy
      gi_wp2_with fail
      go_roundw
      case rel => exact ⟨k + 1, by omega, by go_num, J4, ok.trans o4⟩
      case measure => simp [intOf]; omega
    · have hkm : k = m / 8 := by omega
      subst hkm
      rw [List.take_of_length_le (by simp)] at Jk
      gi_wp2_with fail
      go_end0
      exact ⟨⟨_, rfl⟩, Jk⟩
end Go.Proofs.YtjelacblnjbfgaaGreatDoor.Rc
namespace Go.Proofs.YtjelacblnjbfgaaGreatDoor.Rc
open Go.RowKit Go.Shelf Go.Proofs.YtjelacblnjbfgaaGreatDoor Mem Help Go.Proofs.YtjelacblnjbfgaaGreatDoor.Sum Po Ky Ct Go.Proofs.YtjelacblnjbfgaaGreatDoor.Bit Held Go.Proofs.YtjelacblnjbfgaaGreatDoor.Range
attribute [local go_sem] Oper.semAt_some
attribute [local irreducible] wpList wpListIn Calls
theorem zero_32 : (Tryz.prog.info? 22).bind (·.zero) = some (.agg (arr .u8 (List.replicate 32 0))) := by kernel_rfl
theorem info_32 : (Tryz.prog.info? 22).map (·.size) = some 32 := by kernel_rfl
def zd (d : Bool) (x : Int) : Int := if d = true then 0 else x
theorem zd_wf {d : Bool} {x : Int} (h : (Lit.int .i64 x).wf = true) : (Lit.int .i64 (zd d x)).wf = true := by
  unfold zd
  split
  · rfl
  · exact h
theorem pick_dead (d : Bool) (k v s : Int) (hk : (Lit.int .i64 k).wf = true) (hv : (Lit.int .i64 v).wf = true) (hs : (Lit.int .i64 s).wf = true) (w : World) :
    Calls Tryz.prog 52 #[.int .u64 (oneI d), .agg #[.bool true, .int .i64 0, .int .i64 0, .int .i64 0], .agg #[.bool d, .int .i64 k, .int .i64 v, .int .i64 s]] w fun e w' => e = .returned (.agg #[.bool d, .int .i64 (zd d k), .int .i64 (zd d v), .int .i64 (zd d s)]) ∧ Below w.heap.size w w' := by
  cases d
  · exact pick_any 0 true 0 0 0 false k v s rfl rfl rfl rfl hk hv hs w
  · exact pick_any 1 true 0 0 0 true k v s rfl rfl rfl rfl hk hv hs w
def packed (d : Bool) (k v s : Int) : List Int := eights (numbers d (zd d k) (zd d v) (zd d s))
theorem packed_length (d : Bool) (k v s : Int) : (packed d k v s).length = 32 := by rw [packed, eights_length]; rfl
theorem packed_wf (d : Bool) (k v s : Int) : ∀ z ∈ packed d k v s, (Lit.int .u8 z).wf = true := bs_wf (eights_bytes _)
theorem eights_at : ∀ (ns : List Int) (i : Nat), i < ns.length → ((eights ns).drop (8 * i)).take 8 = digits (ns.getD i 0) 8
  | [], i, h => absurd h (by simp)
  | n :: ns, 0, _ => by
    simp only [eights, List.flatMap_cons, Nat.mul_zero, List.drop_zero, List.getD_cons_zero]
    rw [List.take_append, digits_length, Nat.sub_self, List.take_zero, List.append_nil, List.take_of_length_le (by rw [digits_length]; omega)]
  | n :: ns, i + 1, h => by
    have := eights_at ns i (by simpa using h)
    simp only [eights, List.flatMap_cons, List.getD_cons_succ] at this ⊢
    rw [List.drop_append, digits_length, List.drop_of_length_le (by rw [digits_length]; omega), List.nil_append, show 8 * (i + 1) - 8 = 8 * i by omega, this]
theorem blend_laid {F a X : List Int} {i : Nat} (hF : F.length = a.length) (hX : (F.drop i).take X.length = X) (hi : i + X.length ≤ F.length) : laidOver (blend F a i) i X = blend F a (i + X.length) := by
  have hl : (F.take i).length = i := by simp; omega
  unfold laidOver blend
  rw [List.take_append, hl, Nat.sub_self, List.take_zero, List.append_nil, List.take_take, Nat.min_self, List.drop_append, hl, List.drop_of_length_le (by rw [hl]; omega), List.nil_append, show i + X.length - i = X.length by omega, List.drop_drop, ← List.append_assoc]
  congr 1
  rw [List.take_add, hX]
theorem row_own {W W' : World} {g : Nat} {t : TypeId} {k : IntKind} {zs : List Int} {row : Option Nat} (h : Row W g t k zs) (hg : W.grownBy W' row) {B : Nat} (hr : ∀ r, row = some r → B ≤ r ∧ ∃ o : Obj, W.heap[r]? = some o ∧ o.isCells = false) : Row W' g t k zs :=
  h.grown hg (fun e => by
    obtain ⟨_, o, ho, hc⟩ := hr g e.symm
    rw [h.2] at ho
    cases ho
    cases hc)
theorem blk_own {W W' : World} {g : Nat} {t : TypeId} {cs : Array Value} {row : Option Nat} (h : Blk W g t cs) (hg : W.grownBy W' row) {B : Nat} (hr : ∀ r, row = some r → B ≤ r ∧ ∃ o : Obj, W.heap[r]? = some o ∧ o.isCells = false) : Blk W' g t cs :=
  h.grown hg (fun e => by
    obtain ⟨_, o, ho, hc⟩ := hr g e.symm
    have h' : W.heap[g]? = some (.cells cs t (0, 0)) := h
    rw [h'] at ho
    cases ho
    cases hc)
def PInv (w : World) (gr gb p : Nat) (d : Bool) (k v s : Int) (pre : List Nat) (W : World) : Prop :=
  Row W gb 22 .u8 (blend (packed d k v s) (List.replicate 32 0) (8 * pre.length)) ∧ Row W gr 22 .u8 (List.replicate 32 0) ∧ Row W p 77 .u64 (numbers d (zd d k) (zd d v) (zd d s)) ∧ Below w.heap.size w W
theorem PInv.own (w : World) (gr gb p : Nat) (d : Bool) (k v s : Int) {B : Nat} (hB : w.heap.size ≤ B) : OwnFrom B (PInv w gr gb p d k v s) := fun pre W W' row ⟨h1, h2, h3, h4⟩ hg hr =>
  ⟨row_own h1 hg hr, row_own h2 hg hr, row_own h3 hg hr, h4.grown hg h4.size (fun r e => Nat.le_trans hB (hr r e).1)⟩
set_option maxRecDepth 100000 in
set_option maxHeartbeats 8000000 in
theorem pack_any (d : Bool) (k v s : Int) (hk : (Lit.int .i64 k).wf = true) (hv : (Lit.int .i64 v).wf = true) (hs : (Lit.int .i64 s).wf = true) (w : World) :
    Calls Tryz.prog 33 #[.agg #[.bool d, .int .i64 k, .int .i64 v, .int .i64 s]] w fun e w' => e = .returned (.agg (arr .u8 (packed d k v s))) ∧ Below w.heap.size w w' := by
  refine (callsIn_wide (n := 3)).1 ?_
  refine callsIn_of_wp_marks Tryz.func33 rfl trivial ?_ rfl
  simp only [Tryz.ntmps33, List.size_toArray, List.length_cons, List.length_nil, Nat.reduceAdd, Nat.reduceSub, Array.replicate_succ, Array.replicate_zero, List.push_toArray, List.append_toArray, List.nil_append, List.cons_append]
  refine wpIn_wide.2 ?_
  go_wp2_with (first
    | (refine wpList_box_blk (w := w) rfl 37 _ rfl #[.bool d, .int .i64 k, .int .i64 v, .int .i64 s] rfl ?_; intro ua qa ga za)
    | (refine wpList_alloc_Row (w := ua) rfl 22 rfl .u8 32 zero_32 ?_; intro ub rb gb zb)
    | (refine wpList_alloc_Row (w := ub) rfl 22 rfl .u8 32 zero_32 ?_; intro uc rc gc zc))
  have bz : Below w.heap.size w uc := (((Below.refl _ w).grown ga (Nat.le_refl _) (by simp)).grown gb ga.size (by simp)).grown gc (Nat.le_trans ga.size gb.size) (by simp)
  have qa := (qa.grown gb (by simp)).grown gc (by simp)
  have rc0 := rc.lt
  have hrb : ua.heap.size < ub.heap.size := rb.lt
  have rb := rb.grown gc (by simp)
  have hwa : w.heap.size ≤ ua.heap.size := ga.size
  clear ga gb gc za zb zc
  refine wp_mono (Q := fun e a' w' => e = .normal ∧ ∃ p7, a' = { tmps := #[.agg #[.bool d, .int .i64 k, .int .i64 v, .int .i64 s], .pointer (some ⟨w.heap.size, 0, none⟩), .pointer (some ⟨ua.heap.size, 0, none⟩), .pointer (some ⟨ub.heap.size, 0, none⟩), .pointer (some ⟨p7, 0, none⟩), undef, undef, .pointer (some ⟨w.heap.size, 0, none⟩), .bool d, .int .u64 (oneI d), .agg #[.bool true, .int .i64 0, .int .i64 0, .int .i64 0], .agg #[.bool d, .int .i64 k, .int .i64 v, .int .i64 s], .agg #[.bool d, .int .i64 (zd d k), .int .i64 (zd d v), .int .i64 (zd d s)], .agg (arr .u64 (numbers d (zd d k) (zd d v) (zd d s))), undef, undef, undef, undef, undef, undef, undef, undef, undef, undef], defers := [] } ∧ Row w' p7 77 .u64 (numbers d (zd d k) (zd d v) (zd d s)) ∧ uc.heap.size ≤ p7 ∧ Below uc.heap.size uc w') ?_ ?_
  · refine wp_region_held (S := fun W => Below uc.heap.size uc W) (by kernel_rfl) ?_
    change wpAnyH _ _ _ _ _ _ _ _ uc.drew
    have c0_0 := (Below.refl uc.heap.size uc).drew
    refine Held.take (v := .pointer (some ⟨w.heap.size, 0, none⟩)) 0 (some 7) rfl rfl (by kernel_rfl) (by kernel_rfl) (by kernel_rfl) (fun _ _ _ h => by cases h.1) rfl (Held.y_field (k := 0) (s := 0) rfl rfl Tryz.underlying37 rfl (by kernel_rfl) rfl) c0_0 ?_
    simp only [Act.put, Z1, Z2, Z3]
    refine Held.take (v := .bool d) 1 (some 8) rfl rfl (by kernel_rfl) (by kernel_rfl) (by kernel_rfl) (fun _ _ _ h => by cases h.1) rfl (Held.y_load rfl rfl (by kernel_rfl) (fun W hW => (qa.below hW qa.lt).cell rfl)) c0_0 ?_
    simp only [Act.put, Z1, Z2, Z3]
    refine Held.take (v := .agg #[.bool d, .int .i64 k, .int .i64 v, .int .i64 s]) 4 (some 11) rfl rfl (by kernel_rfl) (by kernel_rfl) (by kernel_rfl) (fun _ _ _ h => by cases h.1) rfl (Held.y_load_blk (n := 4) rfl rfl Tryz.underlying37 rfl (by kernel_rfl) rfl (fun W hW => qa.below hW qa.lt)) c0_0 ?_
    simp only [Act.put, Z1, Z2, Z3]
    refine Held.two 2 7 (by kernel_rfl) ?_ ?_
    · refine Held.op_call 2 (some 9) 53 #[.bool d] rfl rfl rfl rfl (enters_of Tryz.func53 (by kernel_rfl) rfl) (by simp [Act.eval])
        (one_b d _) ?_
      rintro e w1 ⟨rfl, b1⟩
      have c0_1 := c0_0.trans (b1.mono c0_0.size)
      refine ⟨_, rfl, c0_1, ?_⟩
      simp only [Act.put, Z1, Z2, Z3]
      refine Held.two 3 7 (by kernel_rfl) ?_ ?_
      · refine Held.op_call 3 (some 10) 50 #[] rfl rfl rfl rfl (enters_of Tryz.func50 (by kernel_rfl) rfl) (by simp)
          (dead_any _) ?_
        rintro e w2 ⟨rfl, b2⟩
        have c0_2 := c0_1.trans (b2.mono c0_1.size)
        refine ⟨_, rfl, c0_2, ?_⟩
        simp only [Act.put, Z1, Z2, Z3]
        refine Held.two 5 7 (by kernel_rfl) ?_ ?_
        · refine Held.op_call 5 (some 12) 52 #[.int .u64 (oneI d), .agg #[.bool true, .int .i64 0, .int .i64 0, .int .i64 0], .agg #[.bool d, .int .i64 k, .int .i64 v, .int .i64 s]] rfl rfl rfl rfl (enters_of Tryz.func52 (by kernel_rfl) rfl) (by simp [Act.eval])
            (pick_dead d k v s hk hv hs _) ?_
          rintro e w3 ⟨rfl, b3⟩
          have c0_3 := c0_2.trans (b3.mono c0_2.size)
          refine ⟨_, rfl, c0_3, ?_⟩
          simp only [Act.put, Z1, Z2, Z3]
          refine Held.two 6 7 (by kernel_rfl) ?_ ?_
          · refine Held.op_call 6 (some 13) 51 #[.agg #[.bool d, .int .i64 (zd d k), .int .i64 (zd d v), .int .i64 (zd d s)]] rfl rfl rfl rfl (enters_of Tryz.func51 (by kernel_rfl) rfl) (by simp [Act.eval])
              (rowOf_any d (zd d k) (zd d v) (zd d s) _) ?_
            rintro e w4 ⟨rfl, b4⟩
            have c0_4 := c0_3.trans (b4.mono c0_3.size)
            refine ⟨_, rfl, c0_4, ?_⟩
            simp only [Act.put, Z1, Z2, Z3]
            refine Held.one 7 (by kernel_rfl) ?_
            refine Held.op_alloc_Row 7 (some 4) 77 .u64 4 rfl rfl rfl rfl zero_row ?_
            intro p7 w5 r7 b5 h7
            have q7 := Nat.le_trans c0_4.size h7.out
            have c0_5 := c0_4.trans (b5.mono c0_4.size)
            refine ⟨c0_5, ?_⟩
            simp only [Act.put, Z1, Z2, Z3]
            refine Held.one 8 (by kernel_rfl) ?_
            refine Held.op_store_RowL 8 none 77 p7 77 .u64 _ (numbers d (zd d k) (zd d v) (zd d s)) rfl rfl rfl rfl rfl rfl r7 4 info_row rfl (by simp) (numbers_wf _ _ _ _) ?_
            intro w6 r7 g6
            have c0_6 := c0_5.grown g6 c0_5.size (fun r e => by cases e; exact q7)
            refine ⟨c0_6, ?_⟩
            simp only [Act.put]
            refine wpAnyH_done (by kernel_rfl) ?_ _
            exact ⟨rfl, p7, rfl, r7, q7, c0_6⟩
          · refine Held.op_alloc_Row 7 (some 4) 77 .u64 4 rfl rfl rfl rfl zero_row ?_
            intro p7 w4 r7 b4 h7
            have q7 := Nat.le_trans c0_3.size h7.out
            have c0_4 := c0_3.trans (b4.mono c0_3.size)
            refine ⟨c0_4, ?_⟩
            simp only [Act.put, Z1, Z2, Z3]
            refine Held.one 6 (by kernel_rfl) ?_
            refine Held.op_call 6 (some 13) 51 #[.agg #[.bool d, .int .i64 (zd d k), .int .i64 (zd d v), .int .i64 (zd d s)]] rfl rfl rfl rfl (enters_of Tryz.func51 (by kernel_rfl) rfl) (by simp [Act.eval])
              (rowOf_any d (zd d k) (zd d v) (zd d s) _) ?_
            rintro e w5 ⟨rfl, b5⟩
            have c0_5 := c0_4.trans (b5.mono c0_4.size)
            have r7 := r7.below b5 r7.lt
            refine ⟨_, rfl, c0_5, ?_⟩
            simp only [Act.put, Z1, Z2, Z3]
            refine Held.one 8 (by kernel_rfl) ?_
            refine Held.op_store_RowL 8 none 77 p7 77 .u64 _ (numbers d (zd d k) (zd d v) (zd d s)) rfl rfl rfl rfl rfl rfl r7 4 info_row rfl (by simp) (numbers_wf _ _ _ _) ?_
            intro w6 r7 g6
            have c0_6 := c0_5.grown g6 c0_5.size (fun r e => by cases e; exact q7)
            refine ⟨c0_6, ?_⟩
            simp only [Act.put]
            refine wpAnyH_done (by kernel_rfl) ?_ _
            exact ⟨rfl, p7, rfl, r7, q7, c0_6⟩
        · refine Held.op_alloc_Row 7 (some 4) 77 .u64 4 rfl rfl rfl rfl zero_row ?_
          intro p7 w3 r7 b3 h7
          have q7 := Nat.le_trans c0_2.size h7.out
          have c0_3 := c0_2.trans (b3.mono c0_2.size)
          refine ⟨c0_3, ?_⟩
          simp only [Act.put, Z1, Z2, Z3]
          refine Held.one 5 (by kernel_rfl) ?_
          refine Held.op_call 5 (some 12) 52 #[.int .u64 (oneI d), .agg #[.bool true, .int .i64 0, .int .i64 0, .int .i64 0], .agg #[.bool d, .int .i64 k, .int .i64 v, .int .i64 s]] rfl rfl rfl rfl (enters_of Tryz.func52 (by kernel_rfl) rfl) (by simp [Act.eval])
            (pick_dead d k v s hk hv hs _) ?_
          rintro e w4 ⟨rfl, b4⟩
          have c0_4 := c0_3.trans (b4.mono c0_3.size)
          have r7 := r7.below b4 r7.lt
          refine ⟨_, rfl, c0_4, ?_⟩
          simp only [Act.put, Z1, Z2, Z3]
          refine Held.one 6 (by kernel_rfl) ?_
          refine Held.op_call 6 (some 13) 51 #[.agg #[.bool d, .int .i64 (zd d k), .int .i64 (zd d v), .int .i64 (zd d s)]] rfl rfl rfl rfl (enters_of Tryz.func51 (by kernel_rfl) rfl) (by simp [Act.eval])
            (rowOf_any d (zd d k) (zd d v) (zd d s) _) ?_
          rintro e w5 ⟨rfl, b5⟩
          have c0_5 := c0_4.trans (b5.mono c0_4.size)
          have r7 := r7.below b5 r7.lt
          refine ⟨_, rfl, c0_5, ?_⟩
          simp only [Act.put, Z1, Z2, Z3]
          refine Held.one 8 (by kernel_rfl) ?_
          refine Held.op_store_RowL 8 none 77 p7 77 .u64 _ (numbers d (zd d k) (zd d v) (zd d s)) rfl rfl rfl rfl rfl rfl r7 4 info_row rfl (by simp) (numbers_wf _ _ _ _) ?_
          intro w6 r7 g6
          have c0_6 := c0_5.grown g6 c0_5.size (fun r e => by cases e; exact q7)
          refine ⟨c0_6, ?_⟩
          simp only [Act.put]
          refine wpAnyH_done (by kernel_rfl) ?_ _
          exact ⟨rfl, p7, rfl, r7, q7, c0_6⟩
      · refine Held.op_alloc_Row 7 (some 4) 77 .u64 4 rfl rfl rfl rfl zero_row ?_
        intro p7 w2 r7 b2 h7
        have q7 := Nat.le_trans c0_1.size h7.out
        have c0_2 := c0_1.trans (b2.mono c0_1.size)
        refine ⟨c0_2, ?_⟩
        simp only [Act.put, Z1, Z2, Z3]
        refine Held.one 3 (by kernel_rfl) ?_
        refine Held.op_call 3 (some 10) 50 #[] rfl rfl rfl rfl (enters_of Tryz.func50 (by kernel_rfl) rfl) (by simp)
          (dead_any _) ?_
        rintro e w3 ⟨rfl, b3⟩
        have c0_3 := c0_2.trans (b3.mono c0_2.size)
        have r7 := r7.below b3 r7.lt
        refine ⟨_, rfl, c0_3, ?_⟩
        simp only [Act.put, Z1, Z2, Z3]
        refine Held.one 5 (by kernel_rfl) ?_
        refine Held.op_call 5 (some 12) 52 #[.int .u64 (oneI d), .agg #[.bool true, .int .i64 0, .int .i64 0, .int .i64 0], .agg #[.bool d, .int .i64 k, .int .i64 v, .int .i64 s]] rfl rfl rfl rfl (enters_of Tryz.func52 (by kernel_rfl) rfl) (by simp [Act.eval])
          (pick_dead d k v s hk hv hs _) ?_
        rintro e w4 ⟨rfl, b4⟩
        have c0_4 := c0_3.trans (b4.mono c0_3.size)
        have r7 := r7.below b4 r7.lt
        refine ⟨_, rfl, c0_4, ?_⟩
        simp only [Act.put, Z1, Z2, Z3]
        refine Held.one 6 (by kernel_rfl) ?_
        refine Held.op_call 6 (some 13) 51 #[.agg #[.bool d, .int .i64 (zd d k), .int .i64 (zd d v), .int .i64 (zd d s)]] rfl rfl rfl rfl (enters_of Tryz.func51 (by kernel_rfl) rfl) (by simp [Act.eval])
          (rowOf_any d (zd d k) (zd d v) (zd d s) _) ?_
        rintro e w5 ⟨rfl, b5⟩
        have c0_5 := c0_4.trans (b5.mono c0_4.size)
        have r7 := r7.below b5 r7.lt
        refine ⟨_, rfl, c0_5, ?_⟩
        simp only [Act.put, Z1, Z2, Z3]
        refine Held.one 8 (by kernel_rfl) ?_
        refine Held.op_store_RowL 8 none 77 p7 77 .u64 _ (numbers d (zd d k) (zd d v) (zd d s)) rfl rfl rfl rfl rfl rfl r7 4 info_row rfl (by simp) (numbers_wf _ _ _ _) ?_
        intro w6 r7 g6
        have c0_6 := c0_5.grown g6 c0_5.size (fun r e => by cases e; exact q7)
        refine ⟨c0_6, ?_⟩
        simp only [Act.put]
        refine wpAnyH_done (by kernel_rfl) ?_ _
        exact ⟨rfl, p7, rfl, r7, q7, c0_6⟩
    · refine Held.op_alloc_Row 7 (some 4) 77 .u64 4 rfl rfl rfl rfl zero_row ?_
      intro p7 w1 r7 b1 h7
      have q7 := Nat.le_trans c0_0.size h7.out
      have c0_1 := c0_0.trans (b1.mono c0_0.size)
      refine ⟨c0_1, ?_⟩
      simp only [Act.put, Z1, Z2, Z3]
      refine Held.one 2 (by kernel_rfl) ?_
      refine Held.op_call 2 (some 9) 53 #[.bool d] rfl rfl rfl rfl (enters_of Tryz.func53 (by kernel_rfl) rfl) (by simp [Act.eval])
        (one_b d _) ?_
      rintro e w2 ⟨rfl, b2⟩
      have c0_2 := c0_1.trans (b2.mono c0_1.size)
      have r7 := r7.below b2 r7.lt
      refine ⟨_, rfl, c0_2, ?_⟩
      simp only [Act.put, Z1, Z2, Z3]
      refine Held.one 3 (by kernel_rfl) ?_
      refine Held.op_call 3 (some 10) 50 #[] rfl rfl rfl rfl (enters_of Tryz.func50 (by kernel_rfl) rfl) (by simp)
        (dead_any _) ?_
      rintro e w3 ⟨rfl, b3⟩
      have c0_3 := c0_2.trans (b3.mono c0_2.size)
      have r7 := r7.below b3 r7.lt
      refine ⟨_, rfl, c0_3, ?_⟩
      simp only [Act.put, Z1, Z2, Z3]
      refine Held.one 5 (by kernel_rfl) ?_
      refine Held.op_call 5 (some 12) 52 #[.int .u64 (oneI d), .agg #[.bool true, .int .i64 0, .int .i64 0, .int .i64 0], .agg #[.bool d, .int .i64 k, .int .i64 v, .int .i64 s]] rfl rfl rfl rfl (enters_of Tryz.func52 (by kernel_rfl) rfl) (by simp [Act.eval])
        (pick_dead d k v s hk hv hs _) ?_
      rintro e w4 ⟨rfl, b4⟩
      have c0_4 := c0_3.trans (b4.mono c0_3.size)
      have r7 := r7.below b4 r7.lt
      refine ⟨_, rfl, c0_4, ?_⟩
      simp only [Act.put, Z1, Z2, Z3]
      refine Held.one 6 (by kernel_rfl) ?_
      refine Held.op_call 6 (some 13) 51 #[.agg #[.bool d, .int .i64 (zd d k), .int .i64 (zd d v), .int .i64 (zd d s)]] rfl rfl rfl rfl (enters_of Tryz.func51 (by kernel_rfl) rfl) (by simp [Act.eval])
        (rowOf_any d (zd d k) (zd d v) (zd d s) _) ?_
      rintro e w5 ⟨rfl, b5⟩
      have c0_5 := c0_4.trans (b5.mono c0_4.size)
      have r7 := r7.below b5 r7.lt
      refine ⟨_, rfl, c0_5, ?_⟩
      simp only [Act.put, Z1, Z2, Z3]
      refine Held.one 8 (by kernel_rfl) ?_
      refine Held.op_store_RowL 8 none 77 p7 77 .u64 _ (numbers d (zd d k) (zd d v) (zd d s)) rfl rfl rfl rfl rfl rfl r7 4 info_row rfl (by simp) (numbers_wf _ _ _ _) ?_
      intro w6 r7 g6
      have c0_6 := c0_5.grown g6 c0_5.size (fun r e => by cases e; exact q7)
      refine ⟨c0_6, ?_⟩
      simp only [Act.put]
      refine wpAnyH_done (by kernel_rfl) ?_ _
      exact ⟨rfl, p7, rfl, r7, q7, c0_6⟩
  · rintro e a' v1 ⟨rfl, p7, rfl, rn, q7, cz⟩
    have rb := rb.below cz rb.lt
    have rc := rc.below cz rc.lt
    have bz := bz.trans (cz.mono bz.size)
    have hbp : ub.heap.size < p7 := Nat.lt_of_lt_of_le rc0 q7
    clear cz qa
    have rc1 := rc.lt
    have hsl : ∀ W, (Instr.sliceAt 22 (.pointer (some ⟨ub.heap.size, 0, none⟩)) none none none).run Tryz.prog W = .ok (.slice (some ⟨ub.heap.size, 0, none⟩) 32 32) W := fun W => run_slice_arr_all (P := Tryz.prog) 22 5 32 ub.heap.size W Tryz.underlying22 (by kernel_rfl) (by omega)
    go_wp2_with fail
    refine (words_any (some ⟨ub.heap.size, 0, none⟩) 32 32 v1).mono ?_
    rintro e v2 ⟨bx, rfl, qx, hbx, bw⟩
    have rb := rb.below bw rb.lt
    have rc := rc.below bw rc.lt
    have rn := rn.below bw rn.lt
    have bz := bz.trans (bw.mono bz.size)
    have hbxb : ub.heap.size ≠ bx := fun e => by rw [← e] at hbx; exact absurd (Nat.lt_of_lt_of_le rc1 hbx) (Nat.lt_irrefl _)
    have hit := fun N => words_give N bx (fun b => b = ub.heap.size) ub.heap.size 0 32 32 v2 (qx.cell rfl) (fun e => hbxb e.symm) (Nat.le_refl _) (by omega)
    have hF : (packed d k v s).length = (List.replicate 32 (0 : Int)).length := by rw [packed_length]; simp
    have lt1 := rb.lt
    have lt2 := rc.lt
    clear bw hsl
    go_wp2_with fail
    refine (wpIn_wide (n := 3)).1 ?_
    refine wpIn_rangeFunc_give rfl (by omega) (gf := 76) (lb := #[.pointer (some ⟨bx, 0, none⟩)]) rfl trivial (enters_of Tryz.func76 (by kernel_rfl) rfl)
      (hit _) (fun h k => h.trans k) (fun W l o o' hl ho hc _ => Only.put W l o o' ho hc) (Below.refl _ _) (fun x B W args hx => by cases hx; rfl)
      (PInv w ua.heap.size ub.heap.size p7 d k v s) (PInv.own w _ _ _ d k v s (Nat.le_trans bz.size (Nat.le_refl _))) ⟨by rw [List.length_nil, Nat.mul_zero, blend_zero]; exact rc, rb, rn, bz⟩
      (fun x a' pre W => PInv w ua.heap.size ub.heap.size p7 d k v s pre W ∧ a' = { tmps := #[.agg #[.bool d, .int .i64 k, .int .i64 v, .int .i64 s], .pointer (some ⟨w.heap.size, 0, none⟩), .pointer (some ⟨ua.heap.size, 0, none⟩), .pointer (some ⟨ub.heap.size, 0, none⟩), .pointer (some ⟨p7, 0, none⟩), .int .i64 (x : Int), .slice (some ⟨ub.heap.size, 0 + 8 * x, none⟩) 8 (32 - 8 * x), .pointer (some ⟨w.heap.size, 0, none⟩), .bool d, .int .u64 (oneI d), .agg #[.bool true, .int .i64 0, .int .i64 0, .int .i64 0], .agg #[.bool d, .int .i64 k, .int .i64 v, .int .i64 s], .agg #[.bool d, .int .i64 (zd d k), .int .i64 (zd d v), .int .i64 (zd d s)], .agg (arr .u64 (numbers d (zd d k) (zd d v) (zd d s))), .slice (some ⟨ub.heap.size, 0, none⟩) 32 32, .func (.func 76) #[] #[.pointer (some ⟨bx, 0, none⟩)], .int .i64 (x : Int), .slice (some ⟨ub.heap.size, 0 + 8 * x, none⟩) 8 (32 - 8 * x), undef, undef, undef, undef, undef, undef], defers := [] }) ?ib ?assign ?body ?done
    case ib =>
      rintro x a' pre W W' row ⟨hv, h7⟩ hgr hr
      exact ⟨PInv.own w _ _ _ d k v s (Nat.le_trans bz.size (Nat.le_refl _)) pre W W' row hv hgr hr, h7⟩
    case assign =>
      rintro l pre x args W0 W K hv hg rfl hp hsz hK
      simp only [Held.zip_two, List.setIfInBounds_toArray, List.set_cons_zero, List.set_cons_succ]
      gi_wp2_with fail
      exact hK _ _ (KeepsOthers.refl _) (Only.refl _ _) ⟨PInv.own w _ _ _ d k v s (Nat.le_trans bz.size (Nat.le_refl _)) pre W0 W none hv hg (fun r e => by cases e), rfl⟩
    case body =>
      rintro l pre x a' W ⟨⟨i1, i2, i3, i4⟩, rfl⟩ hp hsz
      obtain ⟨hx, hx4⟩ := prefix_range hp
      have hx4 : x < 4 := hx4
      rw [← hx] at i1
      have hx4' : (x : Int) < 4 := by omega
      have hx0 : (0 : Int) ≤ (x : Int) := by omega
      have cn := i3.cell (i := x) (by rw [numbers_length]; exact hx4)
      have HLB := Lib.hid (show 8 * x + 8 ≤ (blend (packed d k v s) (List.replicate 32 0) (8 * x)).length by rw [blend_length hF]; simp; omega)
      have HBL := Lib.hid (show laidOver (blend (packed d k v s) (List.replicate 32 0) (8 * x)) (8 * x) (digits ((numbers d (zd d k) (zd d v) (zd d s)).getD x 0) 8) = blend (packed d k v s) (List.replicate 32 0) (8 * (pre ++ [x]).length) by
        have := blend_laid (i := 8 * x) (X := digits ((numbers d (zd d k) (zd d v) (zd d s)).getD x 0) 8) hF (by rw [digits_length, packed, eights_at _ _ hx4]) (by rw [digits_length, packed_length]; omega)
        rw [digits_length] at this
        rw [this, List.length_append, List.length_singleton, ← hx]
        congr 1)
      clear hx hp
      generalize (numbers d (zd d k) (zd d v) (zd d s)).getD x 0 = y at cn HBL
      gi_wp2_with fail
      refine ⟨trivial, ?_⟩
      refine (CallsIn.inRound l (callsIn_wide.2 (put_any ub.heap.size (8 * x) 8 (32 - 8 * x) y 22 _ W i1 (by omega) HLB.out))).mono ?_
      rintro e W4 ⟨rfl, r4, g4⟩
      rw [HBL.out] at r4
      gi_wp2_with fail
      exact ⟨Held.others_of_grown i1.2 g4, Only.of_grown g4 (fun r e => by cases e; rfl), r4, i2.grown g4 (by intro e; injection e with e; omega), i3.grown g4 (by intro e; injection e with e; omega), i4.grown g4 i4.size (fun r e => by cases e; omega)⟩
    case done =>
      rintro D W hD ⟨i1, i2, i3, i4⟩ hDl
      have e4 : blend (packed d k v s) (List.replicate 32 0) (8 * (List.range (32 / 8)).length) = packed d k v s := by
        have := blend_all hF
        rw [List.length_replicate] at this
        rw [List.length_range]
        exact this
      rw [e4] at i1
      go_wp2_with (first
        | (refine wpList_load_Row (w := W) rfl 22 _ rfl ub.heap.size rfl 22 .u8 _ i1 32 5 Tryz.underlying22 info_32 (packed_length _ _ _ _) ?_)
        | (refine wpList_store_RowTo (w := W) rfl 22 _ _ rfl ua.heap.size rfl 22 .u8 _ _ rfl i2 32 info_32 (packed_length _ _ _ _) (by simp) (packed_wf _ _ _ _) ?_; intro W5 r5 g5 z5))
      have d5 : W5.heap[D]? = some (.deferred (some [])) := (g5.block D (Array.getElem?_eq_some_iff.1 hDl).1 (by intro e; injection e with e; omega)).trans hDl
      have b5 := i4.grown g5 i4.size (fun r e => by cases e; exact hwa)
      refine ⟨by simp, .inl ⟨_, _, rfl, run_takeDeferred d5, ?_⟩⟩
      have r9 : Row (W5.putObj D (.deferred none)) ua.heap.size 22 .u8 (packed d k v s) := ⟨r5.1, (World.putObj_heap_other (by omega)).trans r5.2⟩
      refine ⟨.agg (arr .u8 (packed d k v s)), results_Row rfl _ _ ua.heap.size _ _ _ rfl r9 32 5 Tryz.underlying22 info_32 (packed_length _ _ _ _), rfl, ?_⟩
      exact b5.grown (grownBy_putObj' _ D _) b5.size (fun r e => by cases e; omega)
end Go.Proofs.YtjelacblnjbfgaaGreatDoor.Rc
namespace Go.Proofs.YtjelacblnjbfgaaGreatDoor.Rs
open Go.RowKit Go.Shelf Mem Held Rc
structure R where
  d : Bool
  k : Int
  v : Int
  s : Int
theorem R.eq {a b : R} (h1 : a.d = b.d) (h2 : a.k = b.k) (h3 : a.v = b.v) (h4 : a.s = b.s) : a = b := by
  cases a
  cases b
  simp_all
instance decR : DecidableEq R := fun a b =>
  if h : a.d = b.d ∧ a.k = b.k ∧ a.v = b.v ∧ a.s = b.s then .isTrue (R.eq h.1 h.2.1 h.2.2.1 h.2.2.2)
  else .isFalse fun e => h (by rw [e]; exact ⟨rfl, rfl, rfl, rfl⟩)
theorem R.iff {a b : R} : a = b ↔ a.d = b.d ∧ a.k = b.k ∧ a.v = b.v ∧ a.s = b.s := ⟨fun e => by rw [e]; exact ⟨rfl, rfl, rfl, rfl⟩, fun h => R.eq h.1 h.2.1 h.2.2.1 h.2.2.2⟩
def R.wf (r : R) : Prop := (Lit.int .i64 r.k).wf = true ∧ (Lit.int .i64 r.v).wf = true ∧ (Lit.int .i64 r.s).wf = true
def R.cells (r : R) : List Value := [.bool r.d, .int .i64 r.k, .int .i64 r.v, .int .i64 r.s]
def R0 : R := ⟨false, 0, 0, 0⟩
def RD : R := ⟨true, 0, 0, 0⟩
def R.zd (r : R) : R := ⟨r.d, Rc.zd r.d r.k, Rc.zd r.d r.v, Rc.zd r.d r.s⟩
def flat (rs : List R) : List Value := rs.flatMap R.cells
theorem flat_length : ∀ rs : List R, (flat rs).length = rs.length * 4
  | [] => rfl
  | r :: rs => by
    have := flat_length rs
    simp only [flat, List.flatMap_cons, List.length_append, List.length_cons, R.cells, List.length_nil] at this ⊢
    omega
theorem flat_append (rs qs : List R) : flat (rs ++ qs) = flat rs ++ flat qs := by simp [flat]
theorem flat_one (r : R) : flat [r] = r.cells := by simp [flat]
theorem flat_at : ∀ (rs : List R) (i j : Nat), j < 4 → i < rs.length → (flat rs)[i * 4 + j]? = (rs.getD i R0).cells[j]?
  | [], i, j, _, h => absurd h (by simp)
  | r :: rs, 0, j, hj, _ => by
    simp only [flat, List.flatMap_cons, Nat.zero_mul, Nat.zero_add, List.getD_cons_zero]
    rw [List.getElem?_append_left (by simp [R.cells]; omega)]
  | r :: rs, i + 1, j, hj, h => by
    have := flat_at rs i j hj (by simpa using h)
    simp only [flat, List.flatMap_cons, List.getD_cons_succ] at this ⊢
    rw [List.getElem?_append_right (by simp [R.cells]; omega), show (i + 1) * 4 + j - r.cells.length = i * 4 + j by simp [R.cells]; omega, this]
theorem flat_one' (rs : List R) : ∀ u ∈ flat rs, u.oneCell' = true := fun u hu => by
  obtain ⟨r, _, h⟩ := List.mem_flatMap.1 hu
  simp only [R.cells, List.mem_cons, List.not_mem_nil, or_false] at h
  rcases h with rfl | rfl | rfl | rfl <;> rfl
def Recs (w : World) (B : Nat) (A : Option Addr) (n : Nat) (rs : List R) : Prop :=
  rs.length = n ∧ (∀ r ∈ rs, r.wf) ∧ (0 < n → ∃ b off, A = some ⟨b, off, none⟩ ∧ b < B ∧ w.rangeAt b off (flat rs))
section
variable {w w' : World} {B B' n : Nat} {A : Option Addr} {rs : List R}
theorem Recs.nil (w : World) (B : Nat) (A : Option Addr) : Recs w B A 0 [] := ⟨rfl, by simp, fun h => absurd h (by omega)⟩
theorem Recs.keep (h : Recs w B A n rs) (hk : ∀ p : Addr, p.block < B → w'.cell? p = w.cell? p) : Recs w' B A n rs :=
  ⟨h.1, h.2.1, fun hn => by
    obtain ⟨b, off, e, hb, hc⟩ := h.2.2 hn
    exact ⟨b, off, e, hb, fun j v hv => (hk ⟨b, off + j, none⟩ hb).trans (hc j v hv)⟩⟩
theorem Recs.more (h : Recs w B A n rs) (hB : B ≤ B') : Recs w B' A n rs :=
  ⟨h.1, h.2.1, fun hn => by
    obtain ⟨b, off, e, hb, hc⟩ := h.2.2 hn
    exact ⟨b, off, e, by omega, hc⟩⟩
theorem Recs.below (h : Recs w B A n rs) (hb : Below B w w') : Recs w' B A n rs := h.keep fun _ hp => hb.cell hp
theorem Recs.at_ (h : Recs w B A n rs) {i : Nat} (hi : i < n) : ∃ b off, A = some ⟨b, off, none⟩ ∧ b < B ∧ w.rangeAt b (off + i * 4) (rs.getD i R0).cells := by
  obtain ⟨b, off, e, hb, hc⟩ := h.2.2 (by omega)
  refine ⟨b, off, e, hb, fun j v hv => ?_⟩
  have hj : j < 4 := by have := (List.getElem?_eq_some_iff.1 hv).1; simpa [R.cells] using this
  rw [Nat.add_assoc]
  exact hc (i * 4 + j) v (by rw [flat_at rs i j hj (by rw [h.1]; exact hi)]; exact hv)
theorem Recs.wf_at (h : Recs w B A n rs) {i : Nat} (hi : i < n) : (rs.getD i R0).wf := by
  have hl : i < rs.length := by rw [h.1]; exact hi
  rw [List.getD_eq_getElem?_getD, List.getElem?_eq_getElem hl]
  exact h.2.1 _ (List.getElem_mem _)
end
section
variable {P : Program} {ops : Array Oper} {Q : Exit → Act → World → Prop}
theorem op_callv (i : Nat) (d : Option Tmp) {o : Oper} {a : Act} {w : World} {K : Act → World → Prop} (f : FuncId) (lb vals : Array Value) {y : Operand} {xs : Array Operand} {ts : Array TypeId} {R : Ending → World → Prop} (hi : ops[i]? = some o) (hd : o.dst = d) (hw : Region.wanted o (yielded ops a.tmps) = true)
    (ho : o.op = .call { callee := .value y, args := xs, argTypes := ts }) (hy : a.eval y = .func (.func f) #[] lb) (he : Enters P f) (hv : xs.map a.eval = vals)
    (hc : Calls P f (vals ++ lb) w R)
    (h : ∀ e w', R e w' → ∃ v, e = .returned v ∧ K (a.put d v) w') : wpOp P ops Q i K a w := by
  subst hd
  refine op_wp i hi hw ?_
  have hrun : (execOp a.eval o).run P w = .ok (.enter f (vals ++ lb)) w := by
    unfold execOp
    simp only [ho, resolve, hy, Deferred.ofValue, Sem.run_bind, Sem.run_pure, Result.andThen_ok, invoke, Array.empty_append, hv]
    exact he _ _
  unfold Oper.wp
  rw [hrun, Oper.upon_enter]
  refine hc.mono fun e w' hR => ?_
  obtain ⟨v, rfl, hW⟩ := h e w' hR
  exact hW
end
section
variable {P : Program} {S : World → Prop} {ρ : Operand → Value} {o : Oper}
theorem run_addr_of (t e : TypeId) (b off len cap i s : Nat) (k : IntKind) (ht : P.underlying t = some (.slice e)) (hs : (P.info? e).map (·.size) = some s) (hi : i < len) (w : World) :
    (Instr.indexAt t (.slice (some ⟨b, off, none⟩) len cap) (.int k (i : Int))).run P w = .ok (.pointer (some ⟨b, off + i * s, none⟩)) w := by
  have he : P.elem t = e := by simp [Program.elem, ht]
  have hz : (sizeOf e).run P w = .ok s w := by
    cases hq : P.info? e with
    | none => simp [hq] at hs
    | some q => simp [hq] at hs; simp [sizeOf, typeInfo, hq, hs]
  have ea : (Addr.mk b off none).add (i * s) = ⟨b, off + i * s, none⟩ := by unfold Addr.add; split <;> simp_all
  rw [run_indexAt_slice w t ⟨b, off, none⟩ len cap k (i : Int) (by rw [he]; exact ht), he, if_pos ⟨by omega, by omega⟩, hz]
  simp [Result.andThen, ea]
theorem y_load_range {ty : TypeId} {x : Operand} {b off n : Nat} {cs : List Value} {d : TypeDesc} (ho : o.op = .load ty x) (hx : ρ x = .pointer (some ⟨b, off, none⟩)) (hu : P.underlying ty = some d) (hd : d.isRow = true) (hi : (P.info? ty).map (·.size) = some n) (hn : cs.length = n)
    (hr : ∀ w, S w → w.rangeAt b off cs) : ∀ w, S w → (execOp ρ o).run P w = .ok (.value (.agg cs.toArray)) w := fun w hw => by
  have h := run_loadAt_mid (P := P) w b off ty cs d (hr w hw) hu hd (by rw [hi, hn])
  simp [execOp, ho, hx, h]
end
end Go.Proofs.YtjelacblnjbfgaaGreatDoor.Rs
