/-
  A number's eight bytes, numbers' bytes, and a number of bytes, by the document's own, by their contracts: with no other layer. Conditions beyond those stated: none.
  Slices cut: s[:h] and s[l:] by their run, and what they read as. No program here. No conditions beyond those stated.
  The document's own Ahead, Before, Pack and Take of records, and the laws' first line, by their contracts. Conditions: the numbers fit their kinds; bytes that read as a list, at most 2^40 of them.
-/
import Derived.Test.YtjelacblnjbfgaaB7
import Derived.Test.YtjelacblnjbfgaaB1
import Derived.Laws.Slices
import Derived.Test.YtjelacblnjbfgaaB8
import Derived.BigQuiet
namespace Go.Proofs.Ytjelacblnjbfgaa.Rc
open Go.RowKit Go.Shelf Go.Proofs.Ytjelacblnjbfgaa.Mem Go.Proofs.Ytjelacblnjbfgaa.Help Go.Proofs.Ytjelacblnjbfgaa.Sum Go.Proofs.Ytjelacblnjbfgaa.Po Go.Proofs.Ytjelacblnjbfgaa.Ky Go.Proofs.Ytjelacblnjbfgaa.Held Go.Proofs.Ytjelacblnjbfgaa
set_option linter.unusedVariables false
attribute [local irreducible] wpList wpListIn Calls

theorem byte_range {x : Int} (k : Nat) : 0 ≤ x / 2 ^ (8 * k) % 256 ∧ x / 2 ^ (8 * k) % 256 ≤ 255 := by omega
theorem order_prefix (zs : List Int) {k : Nat} (hk : k < zs.length) : zs.take k ++ [zs.getD k 0] = zs.take (k + 1) := by
  rw [List.take_succ_eq_append_getElem hk, List.getD_eq_getElem?_getD, List.getElem?_eq_getElem hk]
  rfl
set_option maxRecDepth 100000 in
set_option maxHeartbeats 4000000 in
theorem eight_any (x : Int) (w : World) :
    Calls Try.prog 46 #[.int .u64 x] w fun e w' => ∃ A' c', e = .returned (.slice A' 8 c') ∧ Mem.Own w' w.heap.size 5 .u8 (.slice A' 8 c') (digits x 8) ∧ Below w.heap.size w w' := by
  go_enter Try.func46, Try.ntmps46
  go_wp2_with fail
  go_loopw [3, 4] (fun u i wr => ∃ (k : Nat) (A : Option Addr) (c : Nat), k ≤ 8 ∧ u = .slice A k c ∧ i = .int .i64 k ∧ Mem.Own wr w.heap.size 5 .u8 (.slice A k c) (digits x k) ∧ Below w.heap.size w wr) (fun _ i _ => 8 - (intOf i).toNat)
  case atStart => exact ⟨0, none, 0, by omega, rfl, rfl, Mem.Own.nil _ _ _ _, Below.refl _ _⟩
  case round =>
    obtain ⟨k, A, c, hk, rfl, rfl, ok, bk⟩ := hrel
    by_cases hlt : k < 8
    · have hlt' : (k : Int) < 8 := by omega
      have hk0 : (0 : Int) ≤ (k : Int) := by omega
      have W1 : IntKind.i64.wrap (8 * (k : Int)) = ((8 * k : Nat) : Int) := by rw [IntKind.wrap_i64]; omega
      have W2 : IntKind.u64.wrap ((8 * k : Nat) : Int) = ((8 * k : Nat) : Int) := by rw [IntKind.wrap_u64]; omega
      have W3 : IntKind.u8.wrap (x / 2 ^ (8 * k)) = x / 2 ^ (8 * k) % 256 := by rw [IntKind.wrap_u8]
      have W4 := fun W => Held.run_shr (P := Try.prog) 57 .u64 .u64 (a := x) (8 * k) (by show 8 * k ≤ 64; omega) rfl W
      have hwz : ∀ z ∈ [x / 2 ^ (8 * k) % 256], (Lit.int .u8 z).wf = true := fun z hz => by rw [List.mem_singleton.1 hz]; exact wf_byte (byte_range k)
      have HD := Lib.hid (dig_snoc k x)
      have HL := Lib.hid (digits_length k x)
      generalize x / 2 ^ (8 * k) % 256 = b at W3 hwz HD
      go_wp2_with (first
        | (refine Held.wpList_build_row (w := wr) rfl 23 5 1 _ rfl .u8 1 [b] Try.underlying23 info_u8 (by simp [Act.eval]) rfl (by omega) (by omega) hwz ?_; intro w2 r2 g2 z2; have o2 := ok.kept g2 (by cases (Value.slice A k c).ownBlock <;> simp))
        | (at_builtin; refine wpList_append_ints w2 rfl _ _ 23 rfl w.heap.size 5 .u8 1 Try.underlying23 info_u8 (.slice A k c) (digits x k) rfl o2 w2.heap.size (some ⟨wr.heap.size, 0, none⟩) 1 1 [b] rfl (by have := r2.ints (n := 1) (by simp); simpa using this) (by rw [HL.out]; omega) (by omega) (Nat.le_trans bk.size g2.size) ?_; intro v3 w3 o3 g3 t3; obtain ⟨A3, c3, rfl, h3a, h3b, j3⟩ := o3.form; obtain ⟨n3, hn3⟩ : ∃ n3, (digits x k ++ [b]).length = n3 := ⟨_, rfl⟩; rw [hn3] at o3 j3 h3a ⊢; have HN3 := Lib.hid hn3; clear hn3))
      have hn3 : n3 = k + 1 := by have := HN3.out; rw [List.length_append, HL.out] at this; simp at this; omega
      rw [← HD.out] at o3
      have b3 := (bk.grown g2 bk.size (by simp)).grown g3 (Nat.le_trans bk.size g2.size) (fun r e => (o2.2.lt r e).1)
      clear g2 g3 t3 r2 z2 j3 o2 ok bk HN3 HD
      subst hn3
      go_roundw
      case rel => exact ⟨k + 1, A3, c3, by omega, rfl, by go_num, o3, b3⟩
      case measure => simp [intOf]; omega
    · have hk8 : k = 8 := by omega
      subst hk8
      go_wp2_with fail
      go_ret
      exact ⟨A, c, rfl, ok, bk⟩

set_option maxRecDepth 100000 in
set_option maxHeartbeats 4000000 in
theorem eights_any (B : Nat) (A : Option Addr) (m c : Nat) (xs : List Int) (w : World) (h : Ints w .u64 B A m xs) (hB : B ≤ w.heap.size) (hm : m ≤ 1000) :
    Calls Try.prog 37 #[.slice A m c] w fun e w' => ∃ A' n' c', e = .returned (.slice A' n' c') ∧ Mem.Own w' w.heap.size 5 .u8 (.slice A' n' c') (eights xs) ∧ Below w.heap.size w w' := by
  have HM := Lib.hid h.1
  have hmi : (m : Int) ≤ 1000 := by omega
  go_enter Try.func37, Try.ntmps37
  go_wp2_with fail
  go_loopw [3, 4] (fun u i wr => ∃ (k n1 : Nat) (A1 : Option Addr) (c1 : Nat), k ≤ m ∧ u = .slice A1 n1 c1 ∧ i = .int .i64 k ∧ Mem.Own wr w.heap.size 5 .u8 (.slice A1 n1 c1) (eights (xs.take k)) ∧ Below w.heap.size w wr) (fun _ i _ => m - (intOf i).toNat)
  case atStart => exact ⟨0, 0, none, 0, by omega, rfl, rfl, by rw [List.take_zero]; exact Mem.Own.nil _ _ _ _, Below.refl _ _⟩
  case round =>
    obtain ⟨k, n1, A1, c1, hk, rfl, rfl, ok, bk⟩ := hrel
    by_cases hlt : k < m
    · obtain ⟨b, off, rfl, hb, hc⟩ := (h.below (bk.mono hB)).at_ hlt
      have hlt' : (k : Int) < (m : Int) := by omega
      have hk0 : (0 : Int) ≤ (k : Int) := by omega
      have hkl : k < xs.length := by rw [HM.out]; exact hlt
      have HE := Lib.hid (show eights (xs.take k) ++ digits (xs.getD k 0) 8 = eights (xs.take (k + 1)) by rw [← order_prefix xs hkl, eig_snoc])
      have HL := Lib.hid (show (eights (xs.take k)).length ≤ 8000 by rw [eights_length, List.length_take]; omega)
      generalize xs.getD k 0 = x at hc HE
      go_wp2_with fail
      refine (eight_any x wr).mono ?_
      rintro e w2 ⟨A2, c2, rfl, o2, b2⟩
      have j2 := o2.ints (digits_length 8 x)
      have oo := ok.below b2
      go_wp2_with (at_builtin; refine wpList_append_ints w2 rfl _ _ 23 rfl w.heap.size 5 .u8 1 Try.underlying23 info_u8 (.slice A1 n1 c1) (eights (xs.take k)) rfl oo w2.heap.size A2 8 c2 (digits x 8) rfl j2 (by have := HL.out; omega) (by omega) (Nat.le_trans bk.size b2.size) ?_; intro v3 w3 o3 g3 t3; obtain ⟨A3, c3, rfl, h3a, h3b, j3⟩ := o3.form; obtain ⟨n3, hn3⟩ : ∃ n3, (eights (xs.take k) ++ digits x 8).length = n3 := ⟨_, rfl⟩; rw [hn3] at o3 j3 h3a ⊢; have HN3 := Lib.hid hn3; clear hn3)
      rw [HE.out] at o3
      have b3 := (bk.trans (b2.mono bk.size)).grown g3 (Nat.le_trans bk.size b2.size) (fun r e => (oo.2.lt r e).1)
      clear g3 t3 j3 j2 oo o2 b2 ok bk HN3 HE HL hc h3a h3b
      go_roundw
      case rel => exact ⟨k + 1, n3, A3, c3, by omega, rfl, by go_num, o3, b3⟩
      case measure => simp [intOf]; omega
    · have hkm : k = m := by omega
      subst hkm
      rw [List.take_of_length_le (by rw [HM.out]; omega)] at ok
      go_wp2_with fail
      go_ret
      exact ⟨A1, n1, c1, rfl, ok, bk⟩

/-- bytes behind place k, one more -/
theorem val_drop (s : List Int) {k : Nat} (h : k < s.length) : val (s.drop k) = s.getD k 0 + 256 * val (s.drop (k + 1)) := by
  rw [List.drop_eq_getElem_cons h, val, List.getD_eq_getElem?_getD, List.getElem?_eq_getElem h]
  rfl
theorem or_below {v z : Int} (hv : 0 ≤ v) (hv' : v < 72057594037927936) (hz : 0 ≤ z) (hz' : z < 256) : bits .or .u64 (v * 256) z = z + 256 * v := by
  rw [u64_or _ _ (by omega) (by omega) hz (by omega), Nat.or_comm]
  have := u64_or8 (x := v * 256) (y := z) hz hz' (by omega) (by omega) (by omega)
  rw [u64_or _ _ hz (by omega) (by omega) (by omega)] at this
  rw [this]
  omega
set_option maxRecDepth 100000 in
set_option maxHeartbeats 4000000 in
theorem rnumber_any (B : Nat) (A : Option Addr) (c : Nat) (zs : List Int) (w : World) (h : Ints w .u8 B A 8 zs) :
    Calls Try.prog 40 #[.slice A 8 c] w fun e w' => e = .returned (.int .u64 (val zs)) ∧ w = w' := by
  have HL := Lib.hid h.1
  have HB := Lib.hid (bs_of h.2.1)
  obtain ⟨b, off, rfl, hb, hc⟩ := h.2.2 (by omega)
  go_enter Try.func40, Try.ntmps40
  go_wp2_with fail
  go_loop [3, 4] (fun v i => ∃ k : Nat, k ≤ 8 ∧ i = .int .i64 ((k : Int) - 1) ∧ v = .int .u64 (val (zs.drop k))) (fun _ i => (intOf i + 1).toNat)
  case atStart => exact ⟨8, by omega, rfl, by rw [List.drop_of_length_le (by rw [HL.out]; omega)]; rfl⟩
  case round =>
    obtain ⟨k, hk, rfl, rfl⟩ := hrel
    by_cases hlt : 0 < k
    · obtain ⟨j, rfl⟩ : ∃ j, k = j + 1 := ⟨k - 1, by omega⟩
      have hj : ((j + 1 : Nat) : Int) - 1 = (j : Int) := by omega
      rw [hj]
      have hj0 : (0 : Int) ≤ (j : Int) := by omega
      have hj8 : (j : Int) < 8 := by omega
      have hcj := hc j (by omega)
      have HV := Lib.hid (val_drop zs (k := j) (by rw [HL.out]; omega))
      have hz := wf_u8 (h.range (i := j) (by omega))
      have hv0 := val_nonneg (xs := zs.drop (j + 1)) fun z hz => (HB.out z (List.mem_of_mem_drop hz)).1
      have hv1 := val_lt (xs := zs.drop (j + 1)) fun z hz => HB.out z (List.mem_of_mem_drop hz)
      have hv2 : val (zs.drop (j + 1)) < 72057594037927936 := by
        have e : (zs.drop (j + 1)).length ≤ 7 := by rw [List.length_drop, HL.out]; omega
        generalize (zs.drop (j + 1)).length = n at hv1 e
        rcases (show n = 0 ∨ n = 1 ∨ n = 2 ∨ n = 3 ∨ n = 4 ∨ n = 5 ∨ n = 6 ∨ n = 7 by omega) with rfl | rfl | rfl | rfl | rfl | rfl | rfl | rfl <;> omega
      generalize zs.getD j 0 = z at hcj HV hz
      generalize val (zs.drop (j + 1)) = v at HV hv0 hv2
      have hcv : IntKind.u64.wrap z = z := IntWalk.u64_in _ (by omega)
      have hsh : ∀ W : World, (binOp .shl 57 (.int .u64 v) (.int .u64 ((8 : Nat) : Int))).run Try.prog W = .ok (.int .u64 (v * 256)) W := fun W => by
        have := run_shl_ (P := Try.prog) 57 .u64 .u64 (a := v) 8 (by decide) W
        rwa [show v * 2 ^ 8 = v * 256 by omega, wraps_u64 _ (by omega) (by omega)] at this
      have HOR := Lib.hid (or_below hv0 hv2 hz.1 (by omega))
      clear h hc hv1
      go_wp2_with (refine wpList_shl rfl 57 40 _ _ rfl .u64 .u64 v (v * 256) 8 rfl rfl hsh ?_)
      go_round
      case rel => exact ⟨j, by omega, by go_num, by rw [HV.out, ← HOR.out]⟩
      case measure => simp [intOf]
    · have hk0 : k = 0 := by omega
      subst hk0
      go_wp2_with fail
      go_ret
      exact ⟨rfl, rfl⟩
end Go.Proofs.Ytjelacblnjbfgaa.Rc
namespace Go.Proofs.Ytjelacblnjbfgaa.Mem
open Go.RowKit
set_option linter.unusedVariables false

/-- an address without a spot, if there is room behind it -/
def Flat (A : Option Addr) (cap : Nat) : Prop := cap = 0 ∨ A = none ∨ ∃ b off, A = some ⟨b, off, none⟩
theorem Flat.head (b off cap : Nat) : Flat (some ⟨b, off, none⟩) cap := .inr (.inr ⟨b, off, rfl⟩)

section
variable {P : Program} {t e : TypeId} {A : Option Addr} {n cap : Nat}
theorem run_front (ht : P.underlying t = some (.slice e)) (hs : (P.info? e).map (·.size) = some 1) (hf : Flat A cap) {h : Nat} (hh : h ≤ cap) (w : World) :
    (Instr.sliceAt t (.slice A n cap) none (some (.int .i64 (h : Int))) none).run P w = .ok (.slice A h cap) w := by
  have he : P.elem t = e := by simp [Program.elem, ht]
  have ht' : P.underlying t = some (.slice (P.elem t)) := by rw [he]; exact ht
  obtain ⟨inf, hi, h1⟩ := Option.map_eq_some_iff.1 hs
  rw [run_sliceAt_slice w t _ _ _ _ ht', run_slice_h w t A n cap ht' .i64 _ (by omega) (by omega), he]
  have hz : (sizeOf e).run P w = .ok 1 w := by simp [sizeOf, typeInfo, hi, h1]
  rw [hz]
  simp only [Result.andThen, sliced, Nat.mul_one, Nat.sub_zero, Int.toNat_natCast]
  congr 2
  split
  · rfl
  · rcases hf with h0 | rfl | ⟨b, off, rfl⟩
    · exact absurd h0 ‹_›
    · rfl
    · simp [Addr.add]
theorem run_back (ht : P.underlying t = some (.slice e)) (hs : (P.info? e).map (·.size) = some 1) (hf : Flat A cap) (hc : n ≤ cap) {l : Nat} (hl : l ≤ n) {wi : World} {k : IntKind} {B : Nat} {zs : List Int} (h : Ints wi k B A n zs) :
    ∃ A', (∀ w, (Instr.sliceAt t (.slice A n cap) (some (.int .i64 (l : Int))) none none).run P w = .ok (.slice A' (n - l) (cap - l)) w) ∧ Flat A' (cap - l) ∧ Ints wi k B A' (n - l) (zs.drop l) := by
  have he : P.elem t = e := by simp [Program.elem, ht]
  have ht' : P.underlying t = some (.slice (P.elem t)) := by rw [he]; exact ht
  obtain ⟨inf, hi, h1⟩ := Option.map_eq_some_iff.1 hs
  refine ⟨if cap = l then A else A.map (·.add l), fun w => ?_, ?_, ?_⟩
  · rw [run_sliceAt_slice w t _ _ _ _ ht', run_slice_l w t A n cap ht' .i64 _ (by omega) (by omega), he]
    have hz : (sizeOf e).run P w = .ok 1 w := by simp [sizeOf, typeInfo, hi, h1]
    rw [hz]
    simp only [Result.andThen, sliced, Nat.mul_one, Int.toNat_natCast]
  · by_cases q : cap = l
    · exact .inl (by omega)
    · rw [if_neg q]
      rcases hf with h0 | rfl | ⟨b, off, rfl⟩
      · omega
      · exact .inr (.inl rfl)
      · exact .inr (.inr ⟨b, off + l, by simp [Addr.add]⟩)
  · refine ⟨by rw [List.length_drop, h.1], fun z hz => h.2.1 z (List.mem_of_mem_drop hz), fun h0 => ?_⟩
    obtain ⟨b, off, rfl, hb, hcell⟩ := h.2.2 (by omega)
    rw [if_neg (by omega)]
    refine ⟨b, off + l, by simp [Addr.add], hb, fun i hi => ?_⟩
    have := hcell (l + i) (by omega)
    rw [← Nat.add_assoc] at this
    rw [this]
    simp [List.getD_eq_getElem?_getD, List.getElem?_drop]
end
theorem Ints.front {w : World} {k : IntKind} {B n h : Nat} {A : Option Addr} {zs : List Int} (hi : Ints w k B A n zs) (hh : h ≤ n) : Ints w k B A h (zs.take h) := by
  refine ⟨by rw [List.length_take, hi.1]; omega, fun z hz => hi.2.1 z (List.mem_of_mem_take hz), fun h0 => ?_⟩
  obtain ⟨b, off, rfl, hb, hc⟩ := hi.2.2 (by omega)
  refine ⟨b, off, rfl, hb, fun i hi' => ?_⟩
  rw [hc i (by omega)]
  simp [List.getD_eq_getElem?_getD, hi']
theorem Own.flat {w : World} {base : Nat} {t : TypeId} {k : IntKind} {A : Option Addr} {n c : Nat} {zs : List Int} (h : Own w base t k (.slice A n c) zs) : Flat A c := by
  rcases h.2.2 with ⟨hv, _⟩ | ⟨g, cap, cur, hv, _⟩
  · injection hv with e1; exact .inr (.inl e1)
  · injection hv with e1; exact .inr (.inr ⟨g, 0, e1⟩)
/-- what the frame of a proof says of a slice that came in, as 'Flat' -/
theorem flat_of_row {kd : IntKind} {w : World} {a : Option Addr} {len cap : Nat} {zs : List Int}
    (h : (a = none ∧ len = 0 ∧ cap = 0 ∧ zs = []) ∨
      ∃ x, a = some x ∧ len ≤ cap ∧ cap ≤ maxLen ∧ zs.length = cap ∧ (∀ i, i < zs.length → w.cell? (x.add i) = some (.int kd (zs.getD i 0))) ∧ ∀ n ∈ zs, (Lit.int kd n).wf = true) : Flat a cap := by
  rcases h with ⟨rfl, rfl, rfl, rfl⟩ | ⟨x, rfl, hl, hm, hz, hc, hw⟩
  · exact .inl rfl
  · rcases Nat.eq_zero_or_pos cap with h0 | h0
    · exact .inl h0
    · obtain ⟨b, off, spot⟩ := x
      have h0 := hc 0 (by omega)
      have hspot : spot = none := by simpa [Addr.add] using World.cell?_spot h0
      subst hspot
      exact .inr (.inr ⟨b, off, rfl⟩)
end Go.Proofs.Ytjelacblnjbfgaa.Mem
namespace Go.Proofs.Ytjelacblnjbfgaa.Rc
open Go.RowKit Go.Shelf Go.Proofs.Ytjelacblnjbfgaa.Mem Go.Proofs.Ytjelacblnjbfgaa.Help Go.Proofs.Ytjelacblnjbfgaa.Sum Go.Proofs.Ytjelacblnjbfgaa.Po Go.Proofs.Ytjelacblnjbfgaa.Ky Go.Proofs.Ytjelacblnjbfgaa.Ct Go.Proofs.Ytjelacblnjbfgaa.Bit Go.Proofs.Ytjelacblnjbfgaa.Held Go.Proofs.Ytjelacblnjbfgaa
set_option linter.unusedVariables false
attribute [local irreducible] wpList wpListIn Calls

/-- one more behind: bytes laid into an array of 32, one by one -/
theorem packed_dead (k v s : Int) : packed true k v s = eights [1, 0, 0, 0] := rfl
theorem packed_alive (k v s : Int) : packed false k v s = eights [0, u64 k, u64 v, u64 s] := rfl
theorem info_w64 : (Try.prog.info? 57).map (fun i => (i.zero, i.size, i.bytes)) = some (some (.int .u64 0), 1, 8) := by kernel_rfl

set_option maxRecDepth 100000 in
set_option maxHeartbeats 4000000 in
theorem rpack_true (k v s : Int) (w : World) :
    Calls Try.prog 24 #[.agg #[.bool true, .int .i64 k, .int .i64 v, .int .i64 s]] w fun e w' => e = .returned (.agg (arr .u8 (packed true k v s))) ∧ Below w.heap.size w w' := by
  have e1 := u64_eq k
  have e2 := u64_eq v
  have e3 := u64_eq s
  have hw0 : ∀ z ∈ [0, u64 k, u64 v, u64 s], (Lit.int .u64 z).wf = true := numbers_wf false k v s
  go_enter Try.func24, Try.ntmps24
  go_wp2_with (first
    | (refine wpList_box_blk (w := w) rfl 27 _ rfl #[.bool true, .int .i64 k, .int .i64 v, .int .i64 s] rfl ?_; intro ua qa ga za)
    | (refine wpList_alloc_Row (w := ua) rfl 46 rfl .u8 32 zero_32 ?_; intro ub rr gb zb; have qa := qa.grown gb (by simp); have a0 := qa.cell (i := 0) rfl; have a1 := qa.cell (i := 1) rfl; have a2 := qa.cell (i := 2) rfl; have a3 := qa.cell (i := 3) rfl)
    | (refine Held.wpList_build_row (w := ub) rfl 74 57 4 _ rfl .u64 8 [0, u64 k, u64 v, u64 s] Try.underlying74 info_w64 (by simp [Act.eval]) rfl (by omega) (by omega) hw0 ?_; intro uc rc gc zc))
  have bz : Below w.heap.size w uc := (((Below.refl _ w).grown ga (Nat.le_refl _) (by simp)).grown gb ga.size (by simp)).grown gc (Nat.le_trans ga.size gb.size) (by simp)
  have hwa : w.heap.size ≤ ua.heap.size := ga.size
  have qa := qa.grown gc (by simp)
  have rr := rr.grown gc (by simp)
  have i4 : Ints uc .u64 uc.heap.size (some ⟨ub.heap.size, 0, none⟩) 4 [0, u64 k, u64 v, u64 s] := rc.ints (n := 4) (by simp)
  clear ga gb gc za zb zc a0 a1 a2 a3 rc
  refine (eights_any uc.heap.size (some ⟨ub.heap.size, 0, none⟩) 4 4 [0, u64 k, u64 v, u64 s] uc i4 (Nat.le_refl _) (by omega)).mono ?_
  rintro e ud ⟨Ad, nd, cd, rfl, od, bd⟩
  have bz := bz.trans (bd.mono bz.size)
  have qa := qa.after bd
  have rr := rr.below bd rr.lt
  have a0 := qa.cell (i := 0) rfl
  clear i4 bd
  go_wp2_with (refine Held.wpList_build_row (w := ud) rfl 74 57 4 _ rfl .u64 8 [1, 0, 0, 0] Try.underlying74 info_w64 (by simp [Act.eval]) rfl (by omega) (by omega) (by decide) ?_; intro ue re ge ze)
  have bz := bz.grown ge bz.size (by simp)
  have rr := rr.grown ge (by simp)
  have i4 : Ints ue .u64 ue.heap.size (some ⟨ud.heap.size, 0, none⟩) 4 [1, 0, 0, 0] := re.ints (n := 4) (by simp)
  clear ge ze re od qa a0
  refine (eights_any ue.heap.size (some ⟨ud.heap.size, 0, none⟩) 4 4 [1, 0, 0, 0] ue i4 (Nat.le_refl _) (by omega)).mono ?_
  rintro e uf ⟨Af, nf, cf, rfl, oL, bf⟩
  have bL := bz.trans (bf.mono bz.size)
  have rr := rr.below bf rr.lt
  have lrr := rr.lt
  clear i4 bf bz
  have HPL := Lib.hid (packed_length true k v s)
  have HPW := Lib.hid (packed_wf true k v s)
  obtain ⟨E, hE⟩ : ∃ E, packed true k v s = E := ⟨_, rfl⟩
  rw [hE] at HPL HPW
  rw [← packed_dead k v s, hE] at oL
  have HEE := Lib.hid hE
  clear hE
  have iL : Ints uf .u8 uf.heap.size Af nf E := oL.ints (by obtain ⟨_, _, e, _⟩ := oL.form; injection e with _ e; exact e.symm)
  have hln : nf = 32 := iL.1.symm.trans HPL.out
  subst hln
  clear oL
  go_wp2_with (refine wpList_alloc_Row (w := uf) rfl 46 rfl .u8 32 zero_32 ?_; intro ux rx gx zx)
  have iL := (iL.keep (w' := ux) (fun q hq => World.cell?_of_block (gx.block q.block hq (by simp))))
  have rr := rr.grown gx (by simp)
  have bL := bL.grown gx bL.size (by simp)
  have hne : ua.heap.size < uf.heap.size := lrr
  have hF : E.length = (List.replicate 32 (0 : Int)).length := by rw [HPL.out]; simp
  clear gx zx
  go_loopw [5] (fun i wr => ∃ j : Nat, j ≤ 32 ∧ i = .int .i64 j ∧ Row wr uf.heap.size 46 .u8 (blend E (List.replicate 32 0) j) ∧ Ints wr .u8 uf.heap.size Af 32 E ∧ Row wr ua.heap.size 46 .u8 (List.replicate 32 0) ∧ Below w.heap.size w wr) (fun i _ => 32 - (intOf i).toNat)
  case atStart => exact ⟨0, by omega, rfl, by rw [blend_zero]; exact rx, iL, rr, bL⟩
  case round =>
    clear rx iL rr bL
    obtain ⟨j, hj, rfl, rx, iL, rr, bL⟩ := hrel
    by_cases hlt : j < 32
    · obtain ⟨b, off, rfl, hb, hc⟩ := iL.at_ hlt
      have hlt' : (j : Int) < 32 := by omega
      have hj0 : (0 : Int) ≤ (j : Int) := by omega
      have HS := Lib.hid (blend_set hF (i := j) (by simpa using hlt))
      have HB := Lib.hid (show j < (blend E (List.replicate 32 0) j).length by rw [blend_length hF]; simpa using hlt)
      have hz := iL.range hlt
      have hbw : w.heap.size ≤ uf.heap.size := by omega
      generalize E.getD j 0 = z at hc HS hz
      go_wp2_with (refine wpList_store_elem (w := wr) rfl 5 _ _ rfl uf.heap.size j rfl 46 .u8 _ z rfl rx HB.out size_u8 hz ?_; intro wq rx gq zq; rw [HS.out] at rx)
      have iL := iL.keep (w' := wq) (fun q hq => World.cell?_of_block (gq.block q.block (Nat.lt_of_lt_of_le hq (Nat.le_of_lt (by have := rx.lt; have := zq.out; omega))) (by intro e; injection e with e; omega)))
      have rr := rr.grown gq (by intro e; injection e with e; omega)
      have bL := bL.grown gq bL.size (fun r e => by cases e; exact hbw)
      clear gq zq HS HB hc
      go_roundw
      case rel => exact ⟨j + 1, by omega, by go_num, rx, iL, rr, bL⟩
      case measure => simp [intOf]; omega
    · have hj32 : j = 32 := by omega
      subst hj32
      rw [show blend E (List.replicate 32 0) 32 = E by have := blend_all hF; rwa [List.length_replicate] at this] at rx
      go_wp2_with (first
        | (refine wpList_load_Row rfl 46 _ rfl uf.heap.size rfl 46 .u8 _ rx 32 5 Try.underlying46 info_32 HPL.out ?_)
        | (refine wpList_store_RowTo (w := wr) rfl 46 _ _ rfl ua.heap.size rfl 46 .u8 _ _ rfl rr 32 info_32 HPL.out (by simp) HPW.out ?_; intro wq rq gq zq))
      exact bodyPost_ret (results_Row rfl _ _ ua.heap.size _ _ _ rfl rq 32 5 Try.underlying46 info_32 HPL.out) rfl ⟨by rw [← HEE.out], bL.grown gq bL.size (fun r e => by cases e; exact hwa)⟩

set_option maxRecDepth 100000 in
set_option maxHeartbeats 4000000 in
theorem rpack_false (k v s : Int) (w : World) :
    Calls Try.prog 24 #[.agg #[.bool false, .int .i64 k, .int .i64 v, .int .i64 s]] w fun e w' => e = .returned (.agg (arr .u8 (packed false k v s))) ∧ Below w.heap.size w w' := by
  have e1 := u64_eq k
  have e2 := u64_eq v
  have e3 := u64_eq s
  have hw0 : ∀ z ∈ [0, u64 k, u64 v, u64 s], (Lit.int .u64 z).wf = true := numbers_wf false k v s
  go_enter Try.func24, Try.ntmps24
  go_wp2_with (first
    | (refine wpList_box_blk (w := w) rfl 27 _ rfl #[.bool false, .int .i64 k, .int .i64 v, .int .i64 s] rfl ?_; intro ua qa ga za)
    | (refine wpList_alloc_Row (w := ua) rfl 46 rfl .u8 32 zero_32 ?_; intro ub rr gb zb; have qa := qa.grown gb (by simp); have a0 := qa.cell (i := 0) rfl; have a1 := qa.cell (i := 1) rfl; have a2 := qa.cell (i := 2) rfl; have a3 := qa.cell (i := 3) rfl)
    | (refine Held.wpList_build_row (w := ub) rfl 74 57 4 _ rfl .u64 8 [0, u64 k, u64 v, u64 s] Try.underlying74 info_w64 (by simp [Act.eval]) rfl (by omega) (by omega) hw0 ?_; intro uc rc gc zc))
  have bz : Below w.heap.size w uc := (((Below.refl _ w).grown ga (Nat.le_refl _) (by simp)).grown gb ga.size (by simp)).grown gc (Nat.le_trans ga.size gb.size) (by simp)
  have hwa : w.heap.size ≤ ua.heap.size := ga.size
  have qa := qa.grown gc (by simp)
  have rr := rr.grown gc (by simp)
  have i4 : Ints uc .u64 uc.heap.size (some ⟨ub.heap.size, 0, none⟩) 4 [0, u64 k, u64 v, u64 s] := rc.ints (n := 4) (by simp)
  clear ga gb gc za zb zc a0 a1 a2 a3 rc
  refine (eights_any uc.heap.size (some ⟨ub.heap.size, 0, none⟩) 4 4 [0, u64 k, u64 v, u64 s] uc i4 (Nat.le_refl _) (by omega)).mono ?_
  rintro e ud ⟨Ad, nd, cd, rfl, od, bd⟩
  have bz := bz.trans (bd.mono bz.size)
  have qa := qa.after bd
  have rr := rr.below bd rr.lt
  have a0 := qa.cell (i := 0) rfl
  clear i4 bd
  have oL := od
  have bL := bz
  have lrr := rr.lt
  clear od bz
  have HPL := Lib.hid (packed_length false k v s)
  have HPW := Lib.hid (packed_wf false k v s)
  obtain ⟨E, hE⟩ : ∃ E, packed false k v s = E := ⟨_, rfl⟩
  rw [hE] at HPL HPW
  rw [← packed_alive k v s, hE] at oL
  have HEE := Lib.hid hE
  clear hE
  have iL : Ints ud .u8 ud.heap.size Ad nd E := oL.ints (by obtain ⟨_, _, e, _⟩ := oL.form; injection e with _ e; exact e.symm)
  have hln : nd = 32 := iL.1.symm.trans HPL.out
  subst hln
  clear oL
  clear qa
  go_wp2_with (refine wpList_alloc_Row (w := ud) rfl 46 rfl .u8 32 zero_32 ?_; intro ux rx gx zx)
  have iL := (iL.keep (w' := ux) (fun q hq => World.cell?_of_block (gx.block q.block hq (by simp))))
  have rr := rr.grown gx (by simp)
  have bL := bL.grown gx bL.size (by simp)
  have hne : ua.heap.size < ud.heap.size := lrr
  have hF : E.length = (List.replicate 32 (0 : Int)).length := by rw [HPL.out]; simp
  clear gx zx
  go_loopw [5] (fun i wr => ∃ j : Nat, j ≤ 32 ∧ i = .int .i64 j ∧ Row wr ud.heap.size 46 .u8 (blend E (List.replicate 32 0) j) ∧ Ints wr .u8 ud.heap.size Ad 32 E ∧ Row wr ua.heap.size 46 .u8 (List.replicate 32 0) ∧ Below w.heap.size w wr) (fun i _ => 32 - (intOf i).toNat)
  case atStart => exact ⟨0, by omega, rfl, by rw [blend_zero]; exact rx, iL, rr, bL⟩
  case round =>
    clear rx iL rr bL
    obtain ⟨j, hj, rfl, rx, iL, rr, bL⟩ := hrel
    by_cases hlt : j < 32
    · obtain ⟨b, off, rfl, hb, hc⟩ := iL.at_ hlt
      have hlt' : (j : Int) < 32 := by omega
      have hj0 : (0 : Int) ≤ (j : Int) := by omega
      have HS := Lib.hid (blend_set hF (i := j) (by simpa using hlt))
      have HB := Lib.hid (show j < (blend E (List.replicate 32 0) j).length by rw [blend_length hF]; simpa using hlt)
      have hz := iL.range hlt
      have hbw : w.heap.size ≤ ud.heap.size := by omega
      generalize E.getD j 0 = z at hc HS hz
      go_wp2_with (refine wpList_store_elem (w := wr) rfl 5 _ _ rfl ud.heap.size j rfl 46 .u8 _ z rfl rx HB.out size_u8 hz ?_; intro wq rx gq zq; rw [HS.out] at rx)
      have iL := iL.keep (w' := wq) (fun q hq => World.cell?_of_block (gq.block q.block (Nat.lt_of_lt_of_le hq (Nat.le_of_lt (by have := rx.lt; have := zq.out; omega))) (by intro e; injection e with e; omega)))
      have rr := rr.grown gq (by intro e; injection e with e; omega)
      have bL := bL.grown gq bL.size (fun r e => by cases e; exact hbw)
      clear gq zq HS HB hc
      go_roundw
      case rel => exact ⟨j + 1, by omega, by go_num, rx, iL, rr, bL⟩
      case measure => simp [intOf]; omega
    · have hj32 : j = 32 := by omega
      subst hj32
      rw [show blend E (List.replicate 32 0) 32 = E by have := blend_all hF; rwa [List.length_replicate] at this] at rx
      go_wp2_with (first
        | (refine wpList_load_Row rfl 46 _ rfl ud.heap.size rfl 46 .u8 _ rx 32 5 Try.underlying46 info_32 HPL.out ?_)
        | (refine wpList_store_RowTo (w := wr) rfl 46 _ _ rfl ua.heap.size rfl 46 .u8 _ _ rfl rr 32 info_32 HPL.out (by simp) HPW.out ?_; intro wq rq gq zq))
      exact bodyPost_ret (results_Row rfl _ _ ua.heap.size _ _ _ rfl rq 32 5 Try.underlying46 info_32 HPL.out) rfl ⟨by rw [← HEE.out], bL.grown gq bL.size (fun r e => by cases e; exact hwa)⟩

theorem rpack_any (d : Bool) (k v s : Int) (w : World) :
    Calls Try.prog 24 #[.agg #[.bool d, .int .i64 k, .int .i64 v, .int .i64 s]] w fun e w' => e = .returned (.agg (arr .u8 (packed d k v s))) ∧ Below w.heap.size w w' := by
  cases d
  · exact rpack_false k v s w
  · exact rpack_true k v s w

theorem ints_word {w : World} {B b off n : Nat} {zs : List Int} (hi : Ints w .u8 B (some ⟨b, off, none⟩) n zs) {x : Nat} (hx : 8 * x + 8 ≤ n) : Ints w .u8 B (some ⟨b, off + 8 * x, none⟩) 8 ((zs.drop (8 * x)).take 8) := by
  refine ⟨by rw [List.length_take, List.length_drop, hi.1]; omega, fun z hz => hi.2.1 z (List.mem_of_mem_drop (List.mem_of_mem_take hz)), fun _ => ?_⟩
  obtain ⟨b', off', e, hb, hcc⟩ := hi.2.2 (by omega)
  injection e with e
  injection e with e1 e2
  subst e1
  subst e2
  refine ⟨b, off + 8 * x, rfl, hb, fun i hi8 => ?_⟩
  rw [Nat.add_assoc, hcc (8 * x + i) (by omega)]
  simp [List.getD_eq_getElem?_getD, hi8]
theorem rnum_b (B : Nat) (A : Option Addr) (c : Nat) (zs : List Int) (x : Int) (w : World) (h : Ints w .u8 B A 8 zs) (hx : val zs = x) :
    Calls Try.prog 40 #[.slice A 8 c] w fun e w' => e = .returned (.int .u64 x) ∧ Below w.heap.size w w' := by
  rw [← hx]
  exact (rnumber_any B A c zs w h).mono fun _ _ ⟨h, e⟩ => ⟨h, e ▸ Below.refl _ _⟩

theorem rtake_off (A : Option Addr) (m c : Nat) (w : World) (hm : m ≤ 1099511627776) (h : m ≠ 32) :
    Calls Try.prog 26 #[.slice A m c] w fun e w' => e = .returned (.tuple #[.agg noneC, .int .i64 (if m < 32 then 3 else 4)]) ∧ Below w.heap.size w w' := by
  by_cases hlt : m < 32
  · have hlt' : (m : Int) < 32 := by omega
    rw [if_pos hlt]
    go_enter Try.func26, Try.ntmps26
    go_wp2_with (first
      | (refine wpList_alloc_blk (w := w) rfl 27 rfl _ zero_rec ?_; intro w1 q1 g1 z1)
      | (refine wpList_build_blk rfl 27 _ rfl noneC (by kernel_rfl) ?_)
      | (refine wpList_store_blk (w := w1) rfl 27 _ _ rfl w.heap.size 4 rfl 27 _ noneC rfl q1 info_rec rfl rfl (by kernel_rfl) ?_; intro w2 q2 g2 z2))
    exact bodyPost_ret (results_blk_tmp rfl _ _ w.heap.size 4 _ _ _ rfl rfl q2 _ Try.underlying27 rfl info_rec rfl) rfl ⟨rfl, ((Below.refl _ w).grown g1 (Nat.le_refl _) (by simp)).grown g2 g1.size (fun r e => by cases e; exact Nat.le_refl _)⟩
  · have hlt' : ¬ (m : Int) < 32 := by omega
    have hgt : (32 : Int) < (m : Int) := by omega
    rw [if_neg hlt]
    go_enter Try.func26, Try.ntmps26
    go_wp2_with (first
      | (refine wpList_alloc_blk (w := w) rfl 27 rfl _ zero_rec ?_; intro w1 q1 g1 z1)
      | (refine wpList_build_blk rfl 27 _ rfl noneC (by kernel_rfl) ?_)
      | (refine wpList_store_blk (w := w1) rfl 27 _ _ rfl w.heap.size 4 rfl 27 _ noneC rfl q1 info_rec rfl rfl (by kernel_rfl) ?_; intro w2 q2 g2 z2))
    exact bodyPost_ret (results_blk_tmp rfl _ _ w.heap.size 4 _ _ _ rfl rfl q2 _ Try.underlying27 rfl info_rec rfl) rfl ⟨rfl, ((Below.refl _ w).grown g1 (Nat.le_refl _) (by simp)).grown g2 g1.size (fun r e => by cases e; exact Nat.le_refl _)⟩

set_option maxRecDepth 100000 in
set_option maxHeartbeats 4000000 in
theorem rtake_at (B : Nat) (b off c : Nat) (zs : List Int) (w : World) (h : Ints w .u8 B (some ⟨b, off, none⟩) 32 zs) (hb : b < B) (hB : B ≤ w.heap.size) (hc : 32 ≤ c) :
    Calls Try.prog 26 #[.slice (some ⟨b, off, none⟩) 32 c] w fun e w' => e = .returned (.tuple #[.agg (takenC zs), .int .i64 (takenE zs)]) ∧ Below w.heap.size w w' := by
  have i0 : Ints w .u8 B (some ⟨b, off, none⟩) 8 (zs.take 8) := h.front (by omega)
  have i1 : Ints w .u8 B (some ⟨b, off + 8, none⟩) 8 ((zs.drop 8).take 8) := ints_word h (x := 1) (by omega)
  have i2 : Ints w .u8 B (some ⟨b, off + 16, none⟩) 8 ((zs.drop 16).take 8) := ints_word h (x := 2) (by omega)
  obtain ⟨A3, hA3, _, i3⟩ := run_back (P := Try.prog) Try.underlying23 size_u8 (Flat.head b off c) hc (l := 24) (by omega) h
  have hA3 : ∀ w, (Instr.sliceAt 23 (.slice (some ⟨b, off, none⟩) 32 c) (some (.int .i64 24)) none none).run Try.prog w = .ok (.slice A3 8 (c - 24)) w := hA3
  have i3 : Ints w .u8 B A3 8 (zs.drop 24) := i3
  have HC := Lib.hid (show takenC zs = if may (fld zs 0) (fld zs 1) (fld zs 2) (fld zs 3) = true then recC (fld zs 0) (fld zs 1) (fld zs 2) (fld zs 3) else noneC by
    unfold takenC mayB
    rw [h.1]
    simp)
  have HE := Lib.hid (show takenE zs = if may (fld zs 0) (fld zs 1) (fld zs 2) (fld zs 3) = true then 0 else 4 by
    unfold takenE mayB
    rw [h.1]
    simp)
  have HN0 := Lib.hid (show val (zs.take 8) = fld zs 0 by unfold fld; rw [Nat.mul_zero, List.drop_zero])
  have HN1 := Lib.hid (show val ((zs.drop 8).take 8) = fld zs 1 from rfl)
  have HN2 := Lib.hid (show val ((zs.drop 16).take 8) = fld zs 2 from rfl)
  have HN3 := Lib.hid (show val (zs.drop 24) = fld zs 3 by unfold fld; rw [List.take_of_length_le (by rw [List.length_drop, h.1]; omega)])
  have hw0 := wf_u64 (fld_wf (bs_of h.2.1) 0)
  generalize fld zs 0 = n0 at *
  generalize fld zs 1 = n1 at *
  generalize fld zs 2 = n2 at *
  generalize fld zs 3 = n3 at *
  clear h
  go_enter Try.func26, Try.ntmps26
  go_wp2_with (refine wpList_alloc_blk (w := w) rfl 27 rfl _ zero_rec ?_; intro u1 q1 g1 z1)
  have bz : Below w.heap.size w u1 := (Below.refl _ w).grown g1 (Nat.le_refl _) (by simp)
  clear g1 z1
  refine wp_region_held (S := fun W => Below u1.heap.size u1 W) (by kernel_rfl) ?_
  change wpAnyH _ _ _ _ _ _ _ _ u1.drew
  have c0_0 := (Below.refl u1.heap.size u1).drew
  refine Held.take (v := .slice (some ⟨b, off, none⟩) 32 c) 0 (some 16) rfl rfl (by kernel_rfl) (by kernel_rfl) (by kernel_rfl) (fun _ _ _ h => h) rfl (Held.y_move rfl rfl) c0_0 ?_
  simp only [Act.put, List.setIfInBounds_toArray, List.set_cons_zero, List.set_cons_succ]
  refine Held.take (v := .slice (some ⟨b, off, none⟩) 8 c) 1 (some 17) rfl rfl (by kernel_rfl) (by kernel_rfl) (by kernel_rfl) (fun _ _ _ h => h) rfl (Held.y_slice rfl (fun W => run_front (P := Try.prog) Try.underlying23 size_u8 (Flat.head b off c) (h := 8) (by omega) W)) c0_0 ?_
  simp only [Act.put, List.setIfInBounds_toArray, List.set_cons_zero, List.set_cons_succ]
  refine Held.take (v := .slice (some ⟨b, off, none⟩) 32 c) 3 (some 19) rfl rfl (by kernel_rfl) (by kernel_rfl) (by kernel_rfl) (fun _ _ _ h => h) rfl (Held.y_move rfl rfl) c0_0 ?_
  simp only [Act.put, List.setIfInBounds_toArray, List.set_cons_zero, List.set_cons_succ]
  refine Held.take (v := .slice (some ⟨b, off + 8, none⟩) 8 (c - 8)) 4 (some 20) rfl rfl (by kernel_rfl) (by kernel_rfl) (by kernel_rfl) (fun _ _ _ h => h) rfl (Held.y_slice rfl (fun W => run_midO (P := Try.prog) Try.underlying23 size_u8 b off 32 (cap := c) (l := 8) (h := 16) (by omega) (by omega) (by omega) W)) c0_0 ?_
  simp only [Act.put, List.setIfInBounds_toArray, List.set_cons_zero, List.set_cons_succ]
  refine Held.one 2 (by kernel_rfl) ?_
  refine Held.op_call 2 (some 18) 40 #[.slice (some ⟨b, off, none⟩) 8 c] rfl rfl rfl rfl (enters_of Try.func40 (by kernel_rfl) rfl) (by simp [Act.eval])
    (rnum_b B _ _ _ n0 _ (i0.below ((bz.trans (c0_0.mono bz.size)).mono hB)) HN0.out) ?_
  rintro e w1 ⟨rfl, b1⟩
  have c0_1 := c0_0.trans (b1.mono c0_0.size)
  refine ⟨_, rfl, c0_1, ?_⟩
  simp only [Act.put, List.setIfInBounds_toArray, List.set_cons_zero, List.set_cons_succ]
  refine Held.one 5 (by kernel_rfl) ?_
  refine Held.op_call 5 (some 21) 40 #[.slice (some ⟨b, off + 8, none⟩) 8 (c - 8)] rfl rfl rfl rfl (enters_of Try.func40 (by kernel_rfl) rfl) (by simp [Act.eval])
    (rnum_b B _ _ _ n1 _ (i1.below ((bz.trans (c0_1.mono bz.size)).mono hB)) HN1.out) ?_
  rintro e w2 ⟨rfl, b2⟩
  have c0_2 := c0_1.trans (b2.mono c0_1.size)
  refine ⟨_, rfl, c0_2, ?_⟩
  simp only [Act.put, List.setIfInBounds_toArray, List.set_cons_zero, List.set_cons_succ]
  refine Held.take (v := .int .u64 n0) 6 (some 4) rfl rfl (by kernel_rfl) (by kernel_rfl) (by kernel_rfl) (fun _ _ _ h => h) rfl (Held.y_assign rfl rfl) c0_2 ?_
  simp only [Act.put, List.setIfInBounds_toArray, List.set_cons_zero, List.set_cons_succ]
  refine Held.take (v := .int .u64 n1) 7 (some 5) rfl rfl (by kernel_rfl) (by kernel_rfl) (by kernel_rfl) (fun _ _ _ h => h) rfl (Held.y_assign rfl rfl) c0_2 ?_
  simp only [Act.put, List.setIfInBounds_toArray, List.set_cons_zero, List.set_cons_succ]
  refine wpAnyH_done (by kernel_rfl) ?_ _
  have bz2 := bz.trans (c0_2.mono bz.size)
  have qz := q1.after c0_2
  generalize w2 = v1 at bz2 qz ⊢
  go_wp2_with fail
  refine wp_region_held (S := fun W => Below v1.heap.size v1 W) (by kernel_rfl) ?_
  change wpAnyH _ _ _ _ _ _ _ _ v1.drew
  have c0_0 := (Below.refl v1.heap.size v1).drew
  refine Held.take (v := .slice (some ⟨b, off, none⟩) 32 c) 0 (some 22) rfl rfl (by kernel_rfl) (by kernel_rfl) (by kernel_rfl) (fun _ _ _ h => h) rfl (Held.y_move rfl rfl) c0_0 ?_
  simp only [Act.put, List.setIfInBounds_toArray, List.set_cons_zero, List.set_cons_succ]
  refine Held.take (v := .slice (some ⟨b, off + 16, none⟩) 8 (c - 16)) 1 (some 23) rfl rfl (by kernel_rfl) (by kernel_rfl) (by kernel_rfl) (fun _ _ _ h => h) rfl (Held.y_slice rfl (fun W => run_midO (P := Try.prog) Try.underlying23 size_u8 b off 32 (cap := c) (l := 16) (h := 24) (by omega) (by omega) (by omega) W)) c0_0 ?_
  simp only [Act.put, List.setIfInBounds_toArray, List.set_cons_zero, List.set_cons_succ]
  refine Held.take (v := .slice (some ⟨b, off, none⟩) 32 c) 3 (some 25) rfl rfl (by kernel_rfl) (by kernel_rfl) (by kernel_rfl) (fun _ _ _ h => h) rfl (Held.y_move rfl rfl) c0_0 ?_
  simp only [Act.put, List.setIfInBounds_toArray, List.set_cons_zero, List.set_cons_succ]
  refine Held.take (v := .slice A3 8 (c - 24)) 4 (some 26) rfl rfl (by kernel_rfl) (by kernel_rfl) (by kernel_rfl) (fun _ _ _ h => h) rfl (Held.y_slice rfl (fun W => hA3 W)) c0_0 ?_
  simp only [Act.put, List.setIfInBounds_toArray, List.set_cons_zero, List.set_cons_succ]
  refine Held.one 2 (by kernel_rfl) ?_
  refine Held.op_call 2 (some 24) 40 #[.slice (some ⟨b, off + 16, none⟩) 8 (c - 16)] rfl rfl rfl rfl (enters_of Try.func40 (by kernel_rfl) rfl) (by simp [Act.eval])
    (rnum_b B _ _ _ n2 _ (i2.below ((bz2.trans (c0_0.mono bz2.size)).mono hB)) HN2.out) ?_
  rintro e w1 ⟨rfl, b1⟩
  have c0_1 := c0_0.trans (b1.mono c0_0.size)
  refine ⟨_, rfl, c0_1, ?_⟩
  simp only [Act.put, List.setIfInBounds_toArray, List.set_cons_zero, List.set_cons_succ]
  refine Held.one 5 (by kernel_rfl) ?_
  refine Held.op_call 5 (some 27) 40 #[.slice A3 8 (c - 24)] rfl rfl rfl rfl (enters_of Try.func40 (by kernel_rfl) rfl) (by simp [Act.eval])
    (rnum_b B _ _ _ n3 _ (i3.below ((bz2.trans (c0_1.mono bz2.size)).mono hB)) HN3.out) ?_
  rintro e w2 ⟨rfl, b2⟩
  have c0_2 := c0_1.trans (b2.mono c0_1.size)
  refine ⟨_, rfl, c0_2, ?_⟩
  simp only [Act.put, List.setIfInBounds_toArray, List.set_cons_zero, List.set_cons_succ]
  refine Held.take (v := .int .u64 n2) 6 (some 6) rfl rfl (by kernel_rfl) (by kernel_rfl) (by kernel_rfl) (fun _ _ _ h => h) rfl (Held.y_assign rfl rfl) c0_2 ?_
  simp only [Act.put, List.setIfInBounds_toArray, List.set_cons_zero, List.set_cons_succ]
  refine Held.take (v := .int .u64 n3) 7 (some 7) rfl rfl (by kernel_rfl) (by kernel_rfl) (by kernel_rfl) (fun _ _ _ h => h) rfl (Held.y_assign rfl rfl) c0_2 ?_
  simp only [Act.put, List.setIfInBounds_toArray, List.set_cons_zero, List.set_cons_succ]
  refine wpAnyH_done (by kernel_rfl) ?_ _
  have bz3 := bz2.trans (c0_2.mono bz2.size)
  have qy := qz.after c0_2
  generalize w2 = v2 at bz3 qy ⊢
  clear i0 i1 i2 i3 hA3 HN0 HN1 HN2 HN3 bz bz2 q1 qz
  rcases (show n0 = 0 ∨ n0 = 1 ∨ 1 < n0 by omega) with rfl | rfl | hgt
  · have hmay : may 0 n1 n2 n3 = true := rfl
    rw [hmay] at HC HE
    clear hw0
    · go_wp2_with (first
        | (refine wpList_build_blk rfl 27 _ rfl (recC 0 n1 n2 n3) (by kernel_rfl) ?_)
        | (refine wpList_store_blk (w := v2) rfl 27 _ _ rfl w.heap.size 4 rfl 27 _ (recC 0 n1 n2 n3) rfl qy info_rec rfl rfl (by kernel_rfl) ?_; intro w3 q3 g3 z3))
      exact bodyPost_ret (results_blk_tmp rfl _ _ w.heap.size 4 _ _ _ rfl rfl q3 _ Try.underlying27 rfl info_rec rfl) rfl ⟨by rw [HC.out, HE.out]; rfl, bz3.grown g3 bz3.size (fun r e => by cases e; exact Nat.le_refl _)⟩
  · by_cases h1 : n1 = 0
    · subst h1
      by_cases h2 : n2 = 0
      · subst h2
        by_cases h3 : n3 = 0
        · subst h3
          have hmay : may 1 0 0 0 = true := rfl
          rw [hmay] at HC HE
          clear hw0
          go_wp2_with (first
            | (refine wpList_build_blk rfl 27 _ rfl (recC 1 0 0 0) (by kernel_rfl) ?_)
            | (refine wpList_store_blk (w := v2) rfl 27 _ _ rfl w.heap.size 4 rfl 27 _ (recC 1 0 0 0) rfl qy info_rec rfl rfl (by kernel_rfl) ?_; intro w3 q3 g3 z3))
          exact bodyPost_ret (results_blk_tmp rfl _ _ w.heap.size 4 _ _ _ rfl rfl q3 _ Try.underlying27 rfl info_rec rfl) rfl ⟨by rw [HC.out, HE.out]; rfl, bz3.grown g3 bz3.size (fun r e => by cases e; exact Nat.le_refl _)⟩
        · have hmay : may 1 0 0 n3 = false := by simp [may, h3]
          rw [hmay] at HC HE
          have h3' : (n3 != 0) = true := by simpa using h3
          clear hw0
          go_wp2_with (first
            | (refine wpList_build_blk rfl 27 _ rfl noneC (by kernel_rfl) ?_)
            | (refine wpList_store_blk (w := v2) rfl 27 _ _ rfl w.heap.size 4 rfl 27 _ noneC rfl qy info_rec rfl rfl (by kernel_rfl) ?_; intro w3 q3 g3 z3))
          exact bodyPost_ret (results_blk_tmp rfl _ _ w.heap.size 4 _ _ _ rfl rfl q3 _ Try.underlying27 rfl info_rec rfl) rfl ⟨by rw [HC.out, HE.out]; rfl, bz3.grown g3 bz3.size (fun r e => by cases e; exact Nat.le_refl _)⟩
      · have hmay : may 1 0 n2 n3 = false := by simp [may, h2]
        rw [hmay] at HC HE
        have h2' : (n2 != 0) = true := by simpa using h2
        clear hw0
        go_wp2_with (first
          | (refine wpList_build_blk rfl 27 _ rfl noneC (by kernel_rfl) ?_)
          | (refine wpList_store_blk (w := v2) rfl 27 _ _ rfl w.heap.size 4 rfl 27 _ noneC rfl qy info_rec rfl rfl (by kernel_rfl) ?_; intro w3 q3 g3 z3))
        exact bodyPost_ret (results_blk_tmp rfl _ _ w.heap.size 4 _ _ _ rfl rfl q3 _ Try.underlying27 rfl info_rec rfl) rfl ⟨by rw [HC.out, HE.out]; rfl, bz3.grown g3 bz3.size (fun r e => by cases e; exact Nat.le_refl _)⟩
    · have hmay : may 1 n1 n2 n3 = false := by simp [may, h1]
      rw [hmay] at HC HE
      have h1' : (n1 != 0) = true := by simpa using h1
      clear hw0
      go_wp2_with (first
        | (refine wpList_build_blk rfl 27 _ rfl noneC (by kernel_rfl) ?_)
        | (refine wpList_store_blk (w := v2) rfl 27 _ _ rfl w.heap.size 4 rfl 27 _ noneC rfl qy info_rec rfl rfl (by kernel_rfl) ?_; intro w3 q3 g3 z3))
      exact bodyPost_ret (results_blk_tmp rfl _ _ w.heap.size 4 _ _ _ rfl rfl q3 _ Try.underlying27 rfl info_rec rfl) rfl ⟨by rw [HC.out, HE.out]; rfl, bz3.grown g3 bz3.size (fun r e => by cases e; exact Nat.le_refl _)⟩
  · have hmay : may n0 n1 n2 n3 = false := by
      have h0 : n0 ≠ 0 := by omega
      have h1 : n0 ≠ 1 := by omega
      simp [may, h0, h1]
    rw [hmay] at HC HE
    clear hw0
    · go_wp2_with (first
        | (refine wpList_build_blk rfl 27 _ rfl noneC (by kernel_rfl) ?_)
        | (refine wpList_store_blk (w := v2) rfl 27 _ _ rfl w.heap.size 4 rfl 27 _ noneC rfl qy info_rec rfl rfl (by kernel_rfl) ?_; intro w3 q3 g3 z3))
      exact bodyPost_ret (results_blk_tmp rfl _ _ w.heap.size 4 _ _ _ rfl rfl q3 _ Try.underlying27 rfl info_rec rfl) rfl ⟨by rw [HC.out, HE.out]; rfl, bz3.grown g3 bz3.size (fun r e => by cases e; exact Nat.le_refl _)⟩

theorem rtake_any (B : Nat) (A : Option Addr) (m c : Nat) (zs : List Int) (w : World) (h : Ints w .u8 B A m zs) (hB : B ≤ w.heap.size) (hc : m ≤ c) (hm' : m ≤ 1099511627776) :
    Calls Try.prog 26 #[.slice A m c] w fun e w' => e = .returned (.tuple #[.agg (takenC zs), .int .i64 (takenE zs)]) ∧ Below w.heap.size w w' := by
  by_cases hm : m = 32
  · subst hm
    obtain ⟨b, off, rfl, hb, _⟩ := h.2.2 (by omega)
    exact rtake_at B b off c zs w h hb hB hc
  · have e1 : takenC zs = noneC := by
      unfold takenC
      rw [if_neg (by rw [h.1]; omega)]
    have e2 : takenE zs = if m < 32 then 3 else 4 := by
      unfold takenE
      rw [h.1]
      split
      · rfl
      · rw [if_neg (by omega)]
    rw [e1, e2]
    exact rtake_off A m c w hm' hm

end Go.Proofs.Ytjelacblnjbfgaa.Rc
