/-
  Package record's words, put, number and mayBe, by their contracts. Conditions: at most eight bytes a word, at most 2^40 bytes.
-/
import Derived.Test.YtdfnacnklmmjhaaRc2
import Derived.Test.YtdfnacnklmmjhaaGive
import Derived.Test.YtdfnacnklmmjhaaMid
import Derived.Lib.EndianBits
import Derived.Lib.BufferOwn
namespace Go.Proofs.Ytdfnacnklmmjhaa.Rc
open Go.RowKit Go.Shelf Go.Proofs.Ytdfnacnklmmjhaa.Mem Go.Proofs.Ytdfnacnklmmjhaa.Help Go.Proofs.Ytdfnacnklmmjhaa.Sum Go.Proofs.Ytdfnacnklmmjhaa.Po Go.Proofs.Ytdfnacnklmmjhaa.Ky Go.Proofs.Ytdfnacnklmmjhaa.Ct Go.Proofs.Ytdfnacnklmmjhaa.Bit Go.Proofs.Ytdfnacnklmmjhaa.Held Go.Proofs.Ytdfnacnklmmjhaa.Range Go.Proofs.Ytdfnacnklmmjhaa
set_option linter.unusedVariables false
attribute [local go_sem] Oper.semAt_some
attribute [local irreducible] wpList wpListIn Calls

theorem dig_snoc : ∀ (k : Nat) (x : Int), digits x (k + 1) = digits x k ++ [x / 2 ^ (8 * k) % 256]
  | 0, x => by simp [digits]
  | k + 1, x => by
    rw [digits, dig_snoc k (x / 256), digits, List.cons_append]
    congr 2
    rw [show (2 : Int) ^ (8 * (k + 1)) = 256 * 2 ^ (8 * k) by rw [show 8 * (k + 1) = 8 * k + 8 by omega, Int.pow_add]; omega, Int.ediv_ediv_of_nonneg (by omega)]
theorem eig_snoc (pre : List Int) (x : Int) : eights (pre ++ [x]) = eights pre ++ digits x 8 := by simp [eights]
theorem laid_snoc (cur : List Int) (off : Nat) (xs : List Int) (z : Int) (h : off + xs.length < cur.length) : (laidOver cur off xs).set (off + xs.length) z = laidOver cur off (xs ++ [z]) := by
  have ht : (cur.take off).length = off := by simp; omega
  unfold laidOver
  rw [List.set_append_right _ _ (by omega), ht, show off + xs.length - off = xs.length by omega, List.set_append_right _ _ (by omega), Nat.sub_self, List.drop_eq_getElem_cons h, List.set_cons_zero, List.length_append, List.length_singleton, List.append_assoc]
  simp [Nat.add_assoc]
theorem run_midO {P : Program} {t e : TypeId} (ht : P.underlying t = some (.slice e)) (hs : (P.info? e).map (·.size) = some 1) (g o n : Nat) {cap l h : Nat} (hl : l ≤ h) (hh : h ≤ cap) (hlc : l < cap) (w : World) :
    (Instr.sliceAt t (.slice (some ⟨g, o, none⟩) n cap) (some (.int .i64 (l : Int))) (some (.int .i64 (h : Int))) none).run P w = .ok (.slice (some ⟨g, o + l, none⟩) (h - l) (cap - l)) w := by
  have he : P.elem t = e := by simp [Program.elem, ht]
  have ht' : P.underlying t = some (.slice (P.elem t)) := by rw [he]; exact ht
  obtain ⟨inf, hi, h1⟩ := Option.map_eq_some_iff.1 hs
  rw [run_sliceAt_slice w t _ _ _ _ ht', run_slice_lh w t (some ⟨g, o, none⟩) n cap ht' .i64 .i64 _ _ (by omega) (by omega) (by omega), he]
  have hz : (sizeOf e).run P w = .ok 1 w := by simp [sizeOf, typeInfo, hi, h1]
  have hne : ¬ cap = l := by omega
  rw [hz]
  simp [Result.andThen, sliced, Addr.add, hne]
theorem val_eight {s : List Int} (h : Bs s) {q : Nat} (hq : q < 8) (hl : q < s.length) : 0 ≤ val (s.take q) ∧ val (s.take q) < 2 ^ (8 * q) ∧ bits .or .u64 (val (s.take q)) (IntKind.u64.wrap (s.getD q 0 * 2 ^ (8 * q))) = val (s.take (q + 1)) := by
  have h0 := val_nonneg (xs := s.take q) fun z hz => (h z (List.mem_of_mem_take hz)).1
  have h1 := val_lt (xs := s.take q) fun z hz => h z (List.mem_of_mem_take hz)
  have hlt : (s.take q).length = q := by simp; omega
  rw [hlt] at h1
  have hv := val_take_succ s (j := q) (by omega)
  have hb := h.at_ q
  have e : (256 : Int) ^ q = 2 ^ (8 * q) := by rw [Int.pow_mul]; rfl
  rw [e] at h1 hv
  refine ⟨h0, h1, ?_⟩
  rw [hv]
  generalize val (s.take q) = v at *
  generalize s.getD q 0 = x at *
  rcases (show q = 0 ∨ q = 1 ∨ q = 2 ∨ q = 3 ∨ q = 4 ∨ q = 5 ∨ q = 6 ∨ q = 7 by omega) with rfl | rfl | rfl | rfl | rfl | rfl | rfl | rfl <;>
    · simp only [Nat.reduceMul] at h1 ⊢
      rw [wraps_u64 _ (by omega) (by omega)]
      exact bits_join_low .u64 64 (by decide) (fun n h1 h2 => wraps_u64 n h1 h2) _ v (x * _) h0 h1 (by omega) (by omega) (by omega) (by omega)
theorem run_shl_ {P : Program} (t : TypeId) (k k' : IntKind) {a : Int} (n : Nat) (hn : n ≤ k.bits) (w : World) : (binOp .shl t (.int k a) (.int k' (n : Int))).run P w = .ok (.int k (k.wrap (a * 2 ^ n))) w := by
  rw [binOp_shl, shift_shl k k' a (n : Int) (by omega) (by omega), Int.toNat_natCast]
  rfl
theorem wpList_shl {P : Program} {ops : Array Oper} {rest : List Oper} {o : Oper} {a : Act} {w : World} {Q : Exit → Act → World → Prop} (hgd : o.guard = none) (t u : TypeId) (x y : Operand) (ho : o.op = .binOp .shl t x y u) (k k' : IntKind) (v r : Int) (n : Nat) (hx : a.eval x = .int k v) (hy : a.eval y = .int k' (n : Int))
    (hr : ∀ W : World, (binOp .shl t (.int k v) (.int k' (n : Int))).run P W = .ok (.int k r) W) (h : wpList P ops Q rest (a.put o.dst (.int k r)) w) : wpList P ops Q (o :: rest) a w := by
  refine wpList_plain hgd fun K hK => ?_
  unfold Oper.wp execOp
  simp [ho, hx, hy, hr]
  exact hK _ _ h
theorem size_u8 : (Try.prog.info? 5).map (·.size) = some 1 := by kernel_rfl
theorem bs_of {zs : List Int} (h : ∀ z ∈ zs, (Lit.int .u8 z).wf = true) : Bs zs := fun z hz => wf_u8 (h z hz)

set_option maxRecDepth 100000 in
set_option maxHeartbeats 2000000 in
theorem put_any (g off m c : Nat) (n : Int) (t : TypeId) (zs : List Int) (w : World) (hr : Row w g t .u8 zs) (hm : m ≤ 8) (hfit : off + m ≤ zs.length) :
    Calls Try.prog 28 #[.slice (some ⟨g, off, none⟩) m c, .int .u64 n] w fun e w' => e = .returned (.tuple #[]) ∧ Row w' g t .u8 (laidOver zs off (digits n m)) ∧ w.grownBy w' (some g) := by
  have HF := Lib.hid hfit
  go_enter Try.func28, Try.ntmps28
  go_wp2_with fail
  go_loopw [7] (fun i wr => ∃ k : Nat, k ≤ m ∧ i = .int .i64 k ∧ Row wr g t .u8 (laidOver zs off (digits n k)) ∧ w.grownBy wr (some g)) (fun i _ => m - (intOf i).toNat)
  case atStart => exact ⟨0, by omega, rfl, by rw [show digits n 0 = [] from rfl, laidOver_nil]; exact hr, World.grownBy.refl _ _⟩
  case round =>
    clear hr
    obtain ⟨k, hk, rfl, rk, gk⟩ := hrel
    by_cases hlt : k < m
    · have hlt' : (k : Int) < (m : Int) := by omega
      have hk0 : (0 : Int) ≤ (k : Int) := by omega
      have HS := Lib.hid (show (laidOver zs off (digits n k)).set (off + k) (n / 2 ^ (8 * k) % 256) = laidOver zs off (digits n (k + 1)) by
        have := laid_snoc zs off (digits n k) (n / 2 ^ (8 * k) % 256) (by rw [digits_length]; omega)
        rw [digits_length] at this
        rw [dig_snoc, this])
      have HL := Lib.hid (show off + k < (laidOver zs off (digits n k)).length by rw [laidOver_length _ _ _ (by rw [digits_length]; omega)]; omega)
      have hmul : IntKind.i64.wrap (8 * (k : Int)) = ((8 * k : Nat) : Int) := by rw [IntKind.wrap_i64]; omega
      obtain ⟨q, hq⟩ : ∃ q, n / 2 ^ (8 * k) = q := ⟨_, rfl⟩
      rw [hq] at HS
      have HQ := Lib.hid hq
      have hcv : IntKind.u8.wrap q = q % 256 := by rw [IntKind.wrap_u8]
      have hwz : (Lit.int .u8 (q % 256)).wf = true := wf_byte (by omega)
      generalize q % 256 = z at HS hcv hwz
      clear hq
      go_wp2_with (first
        | (refine Held.wpList_shr rfl 35 3 _ _ rfl .u64 .i64 n q (8 * k) rfl (by simp [Act.eval]) (by simp [IntKind.bits]; omega) HQ.out ?_)
        | (refine wpList_store_elem (w := wr) rfl 5 _ _ rfl g (off + k) rfl t .u8 _ z rfl rk HL.out size_u8 hwz ?_; intro w2 r2 g2 z2))
      rw [HS.out] at r2
      go_roundw
      case rel => exact ⟨k + 1, by omega, by go_num, r2, Lib.grownBy_trans gk g2⟩
      case measure => simp [intOf]; omega
    · have hkm : k = m := by omega
      subst hkm
      go_wp2_with fail
      go_end0
      exact ⟨rfl, rk, gk⟩

set_option maxRecDepth 100000 in
set_option maxHeartbeats 2000000 in
theorem number_any (B : Nat) (A : Option Addr) (m c : Nat) (zs : List Int) (w : World) (h : Ints w .u8 B A m zs) (hm : m ≤ 8) :
    Calls Try.prog 22 #[.slice A m c] w fun e w' => e = .returned (.int .u64 (val zs)) ∧ w = w' := by
  have HL := Lib.hid h.1
  have HB := Lib.hid (bs_of h.2.1)
  go_enter Try.func22, Try.ntmps22
  go_wp2_with fail
  go_loop [3, 8] (fun v i => ∃ k : Nat, k ≤ m ∧ i = .int .i64 k ∧ v = .int .u64 (val (zs.take k))) (fun _ i => m - (intOf i).toNat)
  case atStart => exact ⟨0, by omega, rfl, by simp [val]⟩
  case round =>
    obtain ⟨k, hk, rfl, rfl⟩ := hrel
    by_cases hlt : k < m
    · obtain ⟨b, off, rfl, hb, hc⟩ := h.at_ hlt
      have hlt' : (k : Int) < (m : Int) := by omega
      have hk0 : (0 : Int) ≤ (k : Int) := by omega
      have HV := Lib.hid (val_eight HB.out (q := k) (by omega) (by rw [HL.out]; exact hlt)).2.2
      have hz := wf_u8 (h.range hlt)
      generalize zs.getD k 0 = z at hc HV hz
      generalize val (zs.take k) = v at HV
      have hcv : IntKind.u64.wrap z = z := IntWalk.u64_in _ (by omega)
      have hmul : IntKind.i64.wrap (8 * (k : Int)) = ((8 * k : Nat) : Int) := by rw [IntKind.wrap_i64]; omega
      have hsh : ∀ W : World, (binOp .shl 35 (.int .u64 z) (.int .i64 ((8 * k : Nat) : Int))).run Try.prog W = .ok (.int .u64 (IntKind.u64.wrap (z * 2 ^ (8 * k)))) W := run_shl_ 35 .u64 .i64 (8 * k) (by show 8 * k ≤ 64; omega)
      generalize IntKind.u64.wrap (z * 2 ^ (8 * k)) = y at HV hsh
      clear h hz
      go_wp2_with (refine wpList_shl rfl 35 3 _ _ rfl .u64 .i64 z y (8 * k) rfl (by simp [Act.eval]) hsh ?_)
      go_round
      case rel => exact ⟨k + 1, by omega, by go_num, by rw [HV.out]⟩
      case measure => simp [intOf]; omega
    · have hkm : k = m := by omega
      subst hkm
      have HT := Lib.hid (show val (zs.take k) = val zs by rw [List.take_of_length_le (by rw [HL.out]; omega)])
      go_wp2_with fail
      go_ret
      exact ⟨Mem.ret_int HT.out, rfl⟩
end Go.Proofs.Ytdfnacnklmmjhaa.Rc

