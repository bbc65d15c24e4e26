/-
  A number's eight bytes, numbers' bytes, and a number of bytes, by the document's own, by their contracts: with no other layer. Conditions beyond those stated: none.
-/
import Derived.Test.YtdfnacnklmmjhaaRc3
namespace Go.Proofs.Ytdfnacnklmmjhaa.Rc
open Go.RowKit Go.Shelf Go.Proofs.Ytdfnacnklmmjhaa.Mem Go.Proofs.Ytdfnacnklmmjhaa.Help Go.Proofs.Ytdfnacnklmmjhaa.Sum Go.Proofs.Ytdfnacnklmmjhaa.Po Go.Proofs.Ytdfnacnklmmjhaa.Ky Go.Proofs.Ytdfnacnklmmjhaa.Held Go.Proofs.Ytdfnacnklmmjhaa
set_option linter.unusedVariables false
attribute [local irreducible] wpList wpListIn Calls

theorem byte_range {x : Int} (k : Nat) : 0 ≤ x / 2 ^ (8 * k) % 256 ∧ x / 2 ^ (8 * k) % 256 ≤ 255 := by omega
theorem order_prefix (zs : List Int) {k : Nat} (hk : k < zs.length) : zs.take k ++ [zs.getD k 0] = zs.take (k + 1) := by
  rw [List.take_succ_eq_append_getElem hk, List.getD_eq_getElem?_getD, List.getElem?_eq_getElem hk]
  rfl
set_option maxRecDepth 100000 in
set_option maxHeartbeats 4000000 in
theorem eight_any (x : Int) (w : World) :
    Calls Try.prog 37 #[.int .u64 x] w fun e w' => ∃ A' c', e = .returned (.slice A' 8 c') ∧ Mem.Own w' w.heap.size 5 .u8 (.slice A' 8 c') (digits x 8) ∧ Below w.heap.size w w' := by
  go_enter Try.func37, Try.ntmps37
  go_wp2_with fail
  go_loopw [3, 4] (fun u i wr => ∃ (k : Nat) (A : Option Addr) (c : Nat), k ≤ 8 ∧ u = .slice A k c ∧ i = .int .i64 k ∧ Mem.Own wr w.heap.size 5 .u8 (.slice A k c) (digits x k) ∧ Below w.heap.size w wr) (fun _ i _ => 8 - (intOf i).toNat)
  case atStart => exact ⟨0, none, 0, by omega, rfl, rfl, Mem.Own.nil _ _ _ _, Below.refl _ _⟩
  case round =>
    obtain ⟨k, A, c, hk, rfl, rfl, ok, bk⟩ := hrel
    by_cases hlt : k < 8
    · have hlt' : (k : Int) < 8 := by omega
      have hk0 : (0 : Int) ≤ (k : Int) := by omega
      have W1 : IntKind.i64.wrap (8 * (k : Int)) = ((8 * k : Nat) : Int) := by rw [IntKind.wrap_i64]; omega
      have W2 : IntKind.u64.wrap ((8 * k : Nat) : Int) = ((8 * k : Nat) : Int) := by rw [IntKind.wrap_u64]; omega
      have W3 : IntKind.u8.wrap (x / 2 ^ (8 * k)) = x / 2 ^ (8 * k) % 256 := by rw [IntKind.wrap_u8]
      have W4 := fun W => Held.run_shr (P := Try.prog) 35 .u64 .u64 (a := x) (8 * k) (by show 8 * k ≤ 64; omega) rfl W
      have hwz : ∀ z ∈ [x / 2 ^ (8 * k) % 256], (Lit.int .u8 z).wf = true := fun z hz => by rw [List.mem_singleton.1 hz]; exact wf_byte (byte_range k)
      have HD := Lib.hid (dig_snoc k x)
      have HL := Lib.hid (digits_length k x)
      generalize x / 2 ^ (8 * k) % 256 = b at W3 hwz HD
      go_wp2_with (first
        | (refine Held.wpList_build_row (w := wr) rfl 24 5 1 _ rfl .u8 1 [b] Try.underlying24 info_u8 (by simp [Act.eval]) rfl (by omega) (by omega) hwz ?_; intro w2 r2 g2 z2; have o2 := ok.kept g2 (by cases (Value.slice A k c).ownBlock <;> simp))
        | (at_builtin; refine wpList_append_ints w2 rfl _ _ 24 rfl w.heap.size 5 .u8 1 Try.underlying24 info_u8 (.slice A k c) (digits x k) rfl o2 w2.heap.size (some ⟨wr.heap.size, 0, none⟩) 1 1 [b] rfl (by have := r2.ints (n := 1) (by simp); simpa using this) (by rw [HL.out]; omega) (by omega) (Nat.le_trans bk.size g2.size) ?_; intro v3 w3 o3 g3 t3; obtain ⟨A3, c3, rfl, h3a, h3b, j3⟩ := o3.form; obtain ⟨n3, hn3⟩ : ∃ n3, (digits x k ++ [b]).length = n3 := ⟨_, rfl⟩; rw [hn3] at o3 j3 h3a ⊢; have HN3 := Lib.hid hn3; clear hn3))
      have hn3 : n3 = k + 1 := by have := HN3.out; rw [List.length_append, HL.out] at this; simp at this; omega
      rw [← HD.out] at o3
      have b3 := (bk.grown g2 bk.size (by simp)).grown g3 (Nat.le_trans bk.size g2.size) (fun r e => (o2.2.lt r e).1)
      clear g2 g3 t3 r2 z2 j3 o2 ok bk HN3 HD
      subst hn3
      go_roundw
      case rel => exact ⟨k + 1, A3, c3, by omega, rfl, by go_num, o3, b3⟩
      case measure => simp [intOf]; omega
    · have hk8 : k = 8 := by omega
      subst hk8
      go_wp2_with fail
      go_ret
      exact ⟨A, c, rfl, ok, bk⟩

set_option maxRecDepth 100000 in
set_option maxHeartbeats 4000000 in
theorem eights_any (B : Nat) (A : Option Addr) (m c : Nat) (xs : List Int) (w : World) (h : Ints w .u64 B A m xs) (hB : B ≤ w.heap.size) (hm : m ≤ 1000) :
    Calls Try.prog 29 #[.slice A m c] w fun e w' => ∃ A' n' c', e = .returned (.slice A' n' c') ∧ Mem.Own w' w.heap.size 5 .u8 (.slice A' n' c') (eights xs) ∧ Below w.heap.size w w' := by
  have HM := Lib.hid h.1
  have hmi : (m : Int) ≤ 1000 := by omega
  go_enter Try.func29, Try.ntmps29
  go_wp2_with fail
  go_loopw [3, 4] (fun u i wr => ∃ (k n1 : Nat) (A1 : Option Addr) (c1 : Nat), k ≤ m ∧ u = .slice A1 n1 c1 ∧ i = .int .i64 k ∧ Mem.Own wr w.heap.size 5 .u8 (.slice A1 n1 c1) (eights (xs.take k)) ∧ Below w.heap.size w wr) (fun _ i _ => m - (intOf i).toNat)
  case atStart => exact ⟨0, 0, none, 0, by omega, rfl, rfl, by rw [List.take_zero]; exact Mem.Own.nil _ _ _ _, Below.refl _ _⟩
  case round =>
    obtain ⟨k, n1, A1, c1, hk, rfl, rfl, ok, bk⟩ := hrel
    by_cases hlt : k < m
    · obtain ⟨b, off, rfl, hb, hc⟩ := (h.below (bk.mono hB)).at_ hlt
      have hlt' : (k : Int) < (m : Int) := by omega
      have hk0 : (0 : Int) ≤ (k : Int) := by omega
      have hkl : k < xs.length := by rw [HM.out]; exact hlt
      have HE := Lib.hid (show eights (xs.take k) ++ digits (xs.getD k 0) 8 = eights (xs.take (k + 1)) by rw [← order_prefix xs hkl, eig_snoc])
      have HL := Lib.hid (show (eights (xs.take k)).length ≤ 8000 by rw [eights_length, List.length_take]; omega)
      generalize xs.getD k 0 = x at hc HE
      go_wp2_with fail
      refine (eight_any x wr).mono ?_
      rintro e w2 ⟨A2, c2, rfl, o2, b2⟩
      have j2 := o2.ints (digits_length 8 x)
      have oo := ok.below b2
      go_wp2_with (at_builtin; refine wpList_append_ints w2 rfl _ _ 24 rfl w.heap.size 5 .u8 1 Try.underlying24 info_u8 (.slice A1 n1 c1) (eights (xs.take k)) rfl oo w2.heap.size A2 8 c2 (digits x 8) rfl j2 (by have := HL.out; omega) (by omega) (Nat.le_trans bk.size b2.size) ?_; intro v3 w3 o3 g3 t3; obtain ⟨A3, c3, rfl, h3a, h3b, j3⟩ := o3.form; obtain ⟨n3, hn3⟩ : ∃ n3, (eights (xs.take k) ++ digits x 8).length = n3 := ⟨_, rfl⟩; rw [hn3] at o3 j3 h3a ⊢; have HN3 := Lib.hid hn3; clear hn3)
      rw [HE.out] at o3
      have b3 := (bk.trans (b2.mono bk.size)).grown g3 (Nat.le_trans bk.size b2.size) (fun r e => (oo.2.lt r e).1)
      clear g3 t3 j3 j2 oo o2 b2 ok bk HN3 HE HL hc h3a h3b
      go_roundw
      case rel => exact ⟨k + 1, n3, A3, c3, by omega, rfl, by go_num, o3, b3⟩
      case measure => simp [intOf]; omega
    · have hkm : k = m := by omega
      subst hkm
      rw [List.take_of_length_le (by rw [HM.out]; omega)] at ok
      go_wp2_with fail
      go_ret
      exact ⟨A1, n1, c1, rfl, ok, bk⟩

/-- bytes behind place k, one more -/
theorem val_drop (s : List Int) {k : Nat} (h : k < s.length) : val (s.drop k) = s.getD k 0 + 256 * val (s.drop (k + 1)) := by
  rw [List.drop_eq_getElem_cons h, val, List.getD_eq_getElem?_getD, List.getElem?_eq_getElem h]
  rfl
theorem or_below {v z : Int} (hv : 0 ≤ v) (hv' : v < 72057594037927936) (hz : 0 ≤ z) (hz' : z < 256) : bits .or .u64 (v * 256) z = z + 256 * v := by
  rw [u64_or _ _ (by omega) (by omega) hz (by omega), Nat.or_comm]
  have := u64_or8 (x := v * 256) (y := z) hz hz' (by omega) (by omega) (by omega)
  rw [u64_or _ _ hz (by omega) (by omega) (by omega)] at this
  rw [this]
  omega
set_option maxRecDepth 100000 in
set_option maxHeartbeats 4000000 in
theorem rnumber_any (B : Nat) (A : Option Addr) (c : Nat) (zs : List Int) (w : World) (h : Ints w .u8 B A 8 zs) :
    Calls Try.prog 25 #[.slice A 8 c] w fun e w' => e = .returned (.int .u64 (val zs)) ∧ w = w' := by
  have HL := Lib.hid h.1
  have HB := Lib.hid (bs_of h.2.1)
  obtain ⟨b, off, rfl, hb, hc⟩ := h.2.2 (by omega)
  go_enter Try.func25, Try.ntmps25
  go_wp2_with fail
  go_loop [3, 4] (fun v i => ∃ k : Nat, k ≤ 8 ∧ i = .int .i64 ((k : Int) - 1) ∧ v = .int .u64 (val (zs.drop k))) (fun _ i => (intOf i + 1).toNat)
  case atStart => exact ⟨8, by omega, rfl, by rw [List.drop_of_length_le (by rw [HL.out]; omega)]; rfl⟩
  case round =>
    obtain ⟨k, hk, rfl, rfl⟩ := hrel
    by_cases hlt : 0 < k
    · obtain ⟨j, rfl⟩ : ∃ j, k = j + 1 := ⟨k - 1, by omega⟩
      have hj : ((j + 1 : Nat) : Int) - 1 = (j : Int) := by omega
      rw [hj]
      have hj0 : (0 : Int) ≤ (j : Int) := by omega
      have hj8 : (j : Int) < 8 := by omega
      have hcj := hc j (by omega)
      have HV := Lib.hid (val_drop zs (k := j) (by rw [HL.out]; omega))
      have hz := wf_u8 (h.range (i := j) (by omega))
      have hv0 := val_nonneg (xs := zs.drop (j + 1)) fun z hz => (HB.out z (List.mem_of_mem_drop hz)).1
      have hv1 := val_lt (xs := zs.drop (j + 1)) fun z hz => HB.out z (List.mem_of_mem_drop hz)
      have hv2 : val (zs.drop (j + 1)) < 72057594037927936 := by
        have e : (zs.drop (j + 1)).length ≤ 7 := by rw [List.length_drop, HL.out]; omega
        generalize (zs.drop (j + 1)).length = n at hv1 e
        rcases (show n = 0 ∨ n = 1 ∨ n = 2 ∨ n = 3 ∨ n = 4 ∨ n = 5 ∨ n = 6 ∨ n = 7 by omega) with rfl | rfl | rfl | rfl | rfl | rfl | rfl | rfl <;> omega
      generalize zs.getD j 0 = z at hcj HV hz
      generalize val (zs.drop (j + 1)) = v at HV hv0 hv2
      have hcv : IntKind.u64.wrap z = z := IntWalk.u64_in _ (by omega)
      have hsh : ∀ W : World, (binOp .shl 35 (.int .u64 v) (.int .u64 ((8 : Nat) : Int))).run Try.prog W = .ok (.int .u64 (v * 256)) W := fun W => by
        have := run_shl_ (P := Try.prog) 35 .u64 .u64 (a := v) 8 (by decide) W
        rwa [show v * 2 ^ 8 = v * 256 by omega, wraps_u64 _ (by omega) (by omega)] at this
      have HOR := Lib.hid (or_below hv0 hv2 hz.1 (by omega))
      clear h hc hv1
      go_wp2_with (refine wpList_shl rfl 35 59 _ _ rfl .u64 .u64 v (v * 256) 8 rfl rfl hsh ?_)
      go_round
      case rel => exact ⟨j, by omega, by go_num, by rw [HV.out, ← HOR.out]⟩
      case measure => simp [intOf]
    · have hk0 : k = 0 := by omega
      subst hk0
      go_wp2_with fail
      go_ret
      exact ⟨rfl, rfl⟩
end Go.Proofs.Ytdfnacnklmmjhaa.Rc

