/-
  The law VmOps of package dominolaw11 returns true for every operation that emits nothing, any two numbers, and a third one: a program of that operation alone tells what Go's own operator tells.
-/
import Derived.Test.YteipkkakjgfchaaRows
import Derived.WalkKit
import Derived.ProofKit
import Derived.OpenShut
import Derived.ShutString
import Derived.ChangeOld
import Derived.Below
import Derived.Test.YteipkkakjgfchaaB6
import Derived.Test.YteipkkakjgfchaaB2
namespace Go.Proofs.Yteipkkakjgfchaa.vmOps
open Go.ChangeShapes Go.WideShapes Go.ChangeAt Go.RowKit
open Go.ChangeMaps (open_string shut_string)
open Go.Shelf Go.Proofs.Yteipkkakjgfchaa Mem Held Rc Rs Sl Vm
theorem own : ownKnob Try.prog.godebug = none := by kernel_rfl
attribute [local irreducible] wpList Calls
def wantO (a b c n : Int) : List Int := [n, wrap64 (a + b), wrap64 (a - b), wrap64 (a * b), bits .and .i64 a b, bits .or .i64 a b, bits .xor .i64 a b, (if a < b then 1 else 0), (if a = b then 1 else 0), (if a = 0 then c else b), a / 2 ^ (b % 64).toNat]
theorem ops_fin {N : Nat} (hN : N < 11) (a b c n : Int) : finishV 1 [] [] [⟨1, 2, 0, 0, 0, c⟩, ⟨1 + (N : Int), 0, 0, 1, 2, n⟩] b a = (wantO a b c n).getD N 0 := by
  have hC : checkB 1 [] [] [⟨1, 2, 0, 0, 0, c⟩, ⟨1 + (N : Int), 0, 0, 1, 2, n⟩] = true := by
    rcases (show N = 0 ∨ N = 1 ∨ N = 2 ∨ N = 3 ∨ N = 4 ∨ N = 5 ∨ N = 6 ∨ N = 7 ∨ N = 8 ∨ N = 9 ∨ N = 10 by omega) with rfl | rfl | rfl | rfl | rfl | rfl | rfl | rfl | rfl | rfl | rfl <;> rfl
  rw [finishV, if_pos hC]
  rcases (show N = 0 ∨ N = 1 ∨ N = 2 ∨ N = 3 ∨ N = 4 ∨ N = 5 ∨ N = 6 ∨ N = 7 ∨ N = 8 ∨ N = 9 ∨ N = 10 by omega) with rfl | rfl | rfl | rfl | rfl | rfl | rfl | rfl | rfl | rfl | rfl <;> rfl
theorem and63 (n : Int) : bits .and .i64 n 63 = (((n % 64).toNat : Nat) : Int) := by
  have h63 : (BitVec.ofInt 64 63).toNat = 2 ^ 6 - 1 := by decide
  have key : (BitVec.ofInt 64 n &&& BitVec.ofInt 64 63).toNat = (n % ((2 ^ 64 : Nat) : Int)).toNat % 2 ^ 6 := by
    rw [BitVec.toNat_and, BitVec.toNat_ofInt, h63, Nat.and_two_pow_sub_one_eq_mod]
  show IntKind.i64.wrap ((BitVec.ofInt 64 n &&& BitVec.ofInt 64 63).toNat : Nat) = _
  rw [key, IntKind.wrap_i64]
  omega
theorem shr_wf {a : Int} {sh : Nat} (ha : (Lit.int .i64 a).wf = true) : (Lit.int .i64 (a / 2 ^ sh)).wf = true := by
  have h := wf_i64 ha
  have hp : (0 : Int) < 2 ^ sh := Int.pow_pos (by omega)
  have e : a / 2 ^ sh ≤ 9223372036854775807 := by
    by_cases h0 : 0 ≤ a
    · exact Int.le_trans (Int.ediv_le_self _ h0) h.2
    · exact Int.le_trans (Int.le_of_lt (Int.ediv_neg_of_neg_of_pos (by omega) hp)) (by omega)
  have e' : -9223372036854775808 ≤ a / 2 ^ sh := Int.le_ediv_of_mul_le hp (a := -9223372036854775808) (b := a) (by
    have hq : (1 : Int) ≤ 2 ^ sh := by omega
    have : (-9223372036854775808 : Int) * 2 ^ sh ≤ -9223372036854775808 := by omega
    omega)
  generalize a / 2 ^ sh = z at e e' ⊢
  simp [Lit.wf, IntKind.min, IntKind.max, IntKind.signed, IntKind.bits]
  omega
theorem small_wf {z : Int} (h : 0 ≤ z ∧ z ≤ 1000) : (Lit.int .i64 z).wf = true := by
  simp [Lit.wf, IntKind.min, IntKind.max, IntKind.signed, IntKind.bits]
  omega
set_option maxRecDepth 100000 in
set_option maxHeartbeats 16000000 in
theorem start (x a b c n : Int) (w : World) (ha : (Lit.int .i64 a).wf = true) (hb : (Lit.int .i64 b).wf = true) (hc : (Lit.int .i64 c).wf = true) (hn : (Lit.int .i64 n).wf = true) :
    Calls Try.prog 3 #[.int .i64 x, .int .i64 a, .int .i64 b, .int .i64 c, .int .i64 n] w fun e w' => e = .returned (.bool true) ∧ Below w.heap.size w w' := by
  obtain ⟨N, hN, hN2⟩ : ∃ N : Nat, wrap64 ((IntKind.u64.wrap x).tmod 11) = (N : Int) ∧ N < 11 := by
    have hu0 : 0 ≤ IntKind.u64.wrap x := by rw [IntKind.wrap_u64]; omega
    have h1 : 0 ≤ IntKind.u64.wrap x % 11 := Int.emod_nonneg _ (by omega)
    have h2 : IntKind.u64.wrap x % 11 < 11 := Int.emod_lt_of_pos _ (by omega)
    rw [Int.tmod_eq_emod_of_nonneg hu0]
    exact ⟨(IntKind.u64.wrap x % 11).toNat, by unfold wrap64; omega, by omega⟩
  have HOW := Lib.hid (show ∀ o ∈ [(⟨1, 2, 0, 0, 0, c⟩ : O), ⟨1 + (N : Int), 0, 0, 1, 2, n⟩], o.wf from fun o ho => by
    rcases List.mem_cons.1 ho with rfl | ho
    · exact ⟨rfl, rfl, rfl, rfl, rfl, hc⟩
    · rw [List.mem_singleton.1 ho]; exact ⟨small_wf (z := 1 + (N : Int)) (by omega), rfl, rfl, rfl, rfl, hn⟩)
  by_cases h1 : a < b
  · by_cases h0 : a = 0
    · have HF0 := ops_fin hN2 a b c n
      unfold wantO at HF0
      rw [if_pos h1, if_neg (show ¬ a = b by omega), if_pos h0] at HF0
      obtain ⟨F, hF⟩ : ∃ F, finishV 1 [] [] [⟨1, 2, 0, 0, 0, c⟩, ⟨1 + (N : Int), 0, 0, 1, 2, n⟩] b a = F := ⟨_, rfl⟩
      rw [hF] at HF0
      have HFV := Lib.hid hF
      have HF := Lib.hid HF0
      clear HF0 hF
      have h2 : ¬ a = b := by omega
      have H1 := Lib.hid h1
      have H2 := Lib.hid h2
      have H0 := Lib.hid h0
      clear h1 h2 h0
      have H63 := and63 b
      have hsh : (b % 64).toNat ≤ 63 := by omega
      generalize (b % 64).toNat = sh at HF H63 hsh
      have HWF := Lib.hid (show ∀ z ∈ [n, wrap64 (a + b), wrap64 (a - b), wrap64 (a * b), bits .and .i64 a b, bits .or .i64 a b, bits .xor .i64 a b, 1, 0, c, a / 2 ^ sh], (Lit.int .i64 z).wf = true by
        intro z hz
        simp only [List.mem_cons, List.not_mem_nil, or_false] at hz
        rcases hz with rfl | rfl | rfl | rfl | rfl | rfl | rfl | rfl | rfl | rfl | rfl
        · exact hn
        · exact wrap64_wf _
        · exact wrap64_wf _
        · exact wrap64_wf _
        · exact bits_wf' _ (.inl rfl) _ _
        · exact bits_wf' _ (.inr (.inl rfl)) _ _
        · exact bits_wf' _ (.inr (.inr rfl)) _ _
        · rfl
        · rfl
        · assumption
        · exact shr_wf ha)
      go_enter Try.func3, Try.ntmps3
      go_wp2_with (first
        | (refine wpList_build_blk rfl 24 #[_, _, _] rfl #[.int .i64 1, .int .i64 2, .int .i64 0, .int .i64 0, .int .i64 0, .int .i64 c] (by kernel_rfl) ?_)
        | (refine wpList_build_blk rfl 24 #[_, _, _, _, _, _] rfl #[.int .i64 (1 + (N : Int)), .int .i64 0, .int .i64 0, .int .i64 1, .int .i64 2, .int .i64 n] (by kernel_rfl) ?_)
        | (refine wpList_build_lst (w := w) (k := kO) rfl 25 24 2 _ rfl Try.underlying25 _ 48 info_op rfl [⟨1, 2, 0, 0, 0, c⟩, ⟨1 + (N : Int), 0, 0, 1, 2, n⟩] rfl (by kernel_rfl) (by omega) (by decide) ?_; intro w1 q1 g1 z1)
        | (refine wpList_build_blk rfl 27 _ rfl #[.int .i64 1, .slice none 0 0, .slice none 0 0, .slice (some ⟨w.heap.size, 0, none⟩) 2 2] (by kernel_rfl) ?_)
        | (refine wpList_alloc_blk (w := w1) rfl 27 rfl _ zero_prog ?_; intro w2 q2 g2 z2)
        | (refine wpList_store_blk (w := w2) rfl 27 _ _ rfl w1.heap.size 4 rfl 27 _ #[.int .i64 1, .slice none 0 0, .slice none 0 0, .slice (some ⟨w.heap.size, 0, none⟩) 2 2] rfl q2 info_prog rfl rfl (by kernel_rfl) ?_; intro w3 q3 g3 z3)
        | (refine wpList_run (w := w3) rfl (v := .bool true) (Held.y_lss (S := fun _ => True) rfl rfl rfl (decide_eq_true H1.out) _ trivial) ?_)
        | (refine wpList_run (w := w3) rfl (v := .bool false) (Held.y_eqI (S := fun _ => True) rfl rfl rfl (decide_eq_false H2.out) _ trivial) ?_)
        | (refine wpList_run (w := w3) rfl (v := .bool false) (Held.y_neI (S := fun _ => True) rfl rfl rfl (decide_eq_false (fun h => h H0.out)) _ trivial) ?_)
        | (refine wpList_shr (w := w3) rfl _ _ _ _ rfl .i64 .u64 a (a / 2 ^ sh) sh rfl rfl (by simp [IntKind.bits]; omega) rfl ?_)
        | (refine Held.wpList_build_row (w := w3) rfl 28 2 11 _ rfl .i64 8 [n, wrap64 (a + b), wrap64 (a - b), wrap64 (a * b), bits .and .i64 a b, bits .or .i64 a b, bits .xor .i64 a b, 1, 0, c, a / 2 ^ sh] Try.underlying28 info_i64 (by kernel_rfl) rfl (by omega) (by omega) HWF.out ?_; intro w4 r4 g4 z4; have hcell := r4.cell (i := N) (by simp; omega); rw [← HF.out] at hcell; have lw := q1.lt; have l1 := q2.lt; have l3 := q3.lt; have b3 : Below w.heap.size w w3 := (((Below.refl _ w).grown g1 (Nat.le_refl _) (by simp)).grown g2 g1.size (by simp)).grown g3 (Nat.le_trans g1.size g2.size) (fun r e => by cases e; exact g1.size); have b4 := b3.grown g4 b3.size (by simp); have q4 := q3.grown g4 (by simp); have ql : Blk w4 w.heap.size 24 (flat kO [⟨1, 2, 0, 0, 0, c⟩, ⟨1 + (N : Int), 0, 0, 1, 2, n⟩]).toArray := ((q1.grown g2 (by simp)).grown g3 (by intro e; injection e with e; omega)).grown g4 (by simp); have L4 : Lst kO w4 w4.heap.size (some ⟨w.heap.size, 0, none⟩) 2 [⟨1, 2, 0, 0, 0, c⟩, ⟨1 + (N : Int), 0, 0, 1, 2, n⟩] := lst_whole ql rfl HOW.out; clear q1 q2 q3 ql g1 g2 g3 g4 z1 z2 z3 z4 r4 b3))
      refine (awake11_any w4).mono ?_
      rintro e w5 ⟨rfl, b5⟩
      have q5 := q4.after b5
      have L5 := (L4.below b5).more b5.size
      have b5 := b4.trans (b5.mono b4.size)
      clear q4 L4 b4 hcell
      go_wp2_with (refine wpList_load_blk (w := w5) rfl 27 _ rfl w1.heap.size 4 rfl 27 _ q5 _ Try.underlying27 rfl (by kernel_rfl) rfl ?_)
      refine (finish_any w5.heap.size 1 _ _ _ _ _ _ _ _ _ [] [] _ b a w5 hb ha (Lst.nil _ _ _ _) (Lst.nil _ _ _ _) L5 (Nat.le_refl _)).mono ?_
      rintro e w6 ⟨rfl, b6⟩
      rw [HFV.out]
      have b6 := b5.trans (b6.mono b5.size)
      clear q5 L5 b5 HF HFV
      go_wp2_with fail
      go_ret
      exact ⟨rfl, b6⟩
    · have HF0 := ops_fin hN2 a b c n
      unfold wantO at HF0
      rw [if_pos h1, if_neg (show ¬ a = b by omega), if_neg h0] at HF0
      obtain ⟨F, hF⟩ : ∃ F, finishV 1 [] [] [⟨1, 2, 0, 0, 0, c⟩, ⟨1 + (N : Int), 0, 0, 1, 2, n⟩] b a = F := ⟨_, rfl⟩
      rw [hF] at HF0
      have HFV := Lib.hid hF
      have HF := Lib.hid HF0
      clear HF0 hF
      have h2 : ¬ a = b := by omega
      have H1 := Lib.hid h1
      have H2 := Lib.hid h2
      have H0 := Lib.hid h0
      clear h1 h2 h0
      have H63 := and63 b
      have hsh : (b % 64).toNat ≤ 63 := by omega
      generalize (b % 64).toNat = sh at HF H63 hsh
      have HWF := Lib.hid (show ∀ z ∈ [n, wrap64 (a + b), wrap64 (a - b), wrap64 (a * b), bits .and .i64 a b, bits .or .i64 a b, bits .xor .i64 a b, 1, 0, b, a / 2 ^ sh], (Lit.int .i64 z).wf = true by
        intro z hz
        simp only [List.mem_cons, List.not_mem_nil, or_false] at hz
        rcases hz with rfl | rfl | rfl | rfl | rfl | rfl | rfl | rfl | rfl | rfl | rfl
        · exact hn
        · exact wrap64_wf _
        · exact wrap64_wf _
        · exact wrap64_wf _
        · exact bits_wf' _ (.inl rfl) _ _
        · exact bits_wf' _ (.inr (.inl rfl)) _ _
        · exact bits_wf' _ (.inr (.inr rfl)) _ _
        · rfl
        · rfl
        · assumption
        · exact shr_wf ha)
      go_enter Try.func3, Try.ntmps3
      go_wp2_with (first
        | (refine wpList_build_blk rfl 24 #[_, _, _] rfl #[.int .i64 1, .int .i64 2, .int .i64 0, .int .i64 0, .int .i64 0, .int .i64 c] (by kernel_rfl) ?_)
        | (refine wpList_build_blk rfl 24 #[_, _, _, _, _, _] rfl #[.int .i64 (1 + (N : Int)), .int .i64 0, .int .i64 0, .int .i64 1, .int .i64 2, .int .i64 n] (by kernel_rfl) ?_)
        | (refine wpList_build_lst (w := w) (k := kO) rfl 25 24 2 _ rfl Try.underlying25 _ 48 info_op rfl [⟨1, 2, 0, 0, 0, c⟩, ⟨1 + (N : Int), 0, 0, 1, 2, n⟩] rfl (by kernel_rfl) (by omega) (by decide) ?_; intro w1 q1 g1 z1)
        | (refine wpList_build_blk rfl 27 _ rfl #[.int .i64 1, .slice none 0 0, .slice none 0 0, .slice (some ⟨w.heap.size, 0, none⟩) 2 2] (by kernel_rfl) ?_)
        | (refine wpList_alloc_blk (w := w1) rfl 27 rfl _ zero_prog ?_; intro w2 q2 g2 z2)
        | (refine wpList_store_blk (w := w2) rfl 27 _ _ rfl w1.heap.size 4 rfl 27 _ #[.int .i64 1, .slice none 0 0, .slice none 0 0, .slice (some ⟨w.heap.size, 0, none⟩) 2 2] rfl q2 info_prog rfl rfl (by kernel_rfl) ?_; intro w3 q3 g3 z3)
        | (refine wpList_run (w := w3) rfl (v := .bool true) (Held.y_lss (S := fun _ => True) rfl rfl rfl (decide_eq_true H1.out) _ trivial) ?_)
        | (refine wpList_run (w := w3) rfl (v := .bool false) (Held.y_eqI (S := fun _ => True) rfl rfl rfl (decide_eq_false H2.out) _ trivial) ?_)
        | (refine wpList_run (w := w3) rfl (v := .bool true) (Held.y_neI (S := fun _ => True) rfl rfl rfl (decide_eq_true H0.out) _ trivial) ?_)
        | (refine wpList_shr (w := w3) rfl _ _ _ _ rfl .i64 .u64 a (a / 2 ^ sh) sh rfl rfl (by simp [IntKind.bits]; omega) rfl ?_)
        | (refine Held.wpList_build_row (w := w3) rfl 28 2 11 _ rfl .i64 8 [n, wrap64 (a + b), wrap64 (a - b), wrap64 (a * b), bits .and .i64 a b, bits .or .i64 a b, bits .xor .i64 a b, 1, 0, b, a / 2 ^ sh] Try.underlying28 info_i64 (by kernel_rfl) rfl (by omega) (by omega) HWF.out ?_; intro w4 r4 g4 z4; have hcell := r4.cell (i := N) (by simp; omega); rw [← HF.out] at hcell; have lw := q1.lt; have l1 := q2.lt; have l3 := q3.lt; have b3 : Below w.heap.size w w3 := (((Below.refl _ w).grown g1 (Nat.le_refl _) (by simp)).grown g2 g1.size (by simp)).grown g3 (Nat.le_trans g1.size g2.size) (fun r e => by cases e; exact g1.size); have b4 := b3.grown g4 b3.size (by simp); have q4 := q3.grown g4 (by simp); have ql : Blk w4 w.heap.size 24 (flat kO [⟨1, 2, 0, 0, 0, c⟩, ⟨1 + (N : Int), 0, 0, 1, 2, n⟩]).toArray := ((q1.grown g2 (by simp)).grown g3 (by intro e; injection e with e; omega)).grown g4 (by simp); have L4 : Lst kO w4 w4.heap.size (some ⟨w.heap.size, 0, none⟩) 2 [⟨1, 2, 0, 0, 0, c⟩, ⟨1 + (N : Int), 0, 0, 1, 2, n⟩] := lst_whole ql rfl HOW.out; clear q1 q2 q3 ql g1 g2 g3 g4 z1 z2 z3 z4 r4 b3))
      refine (awake11_any w4).mono ?_
      rintro e w5 ⟨rfl, b5⟩
      have q5 := q4.after b5
      have L5 := (L4.below b5).more b5.size
      have b5 := b4.trans (b5.mono b4.size)
      clear q4 L4 b4 hcell
      go_wp2_with (refine wpList_load_blk (w := w5) rfl 27 _ rfl w1.heap.size 4 rfl 27 _ q5 _ Try.underlying27 rfl (by kernel_rfl) rfl ?_)
      refine (finish_any w5.heap.size 1 _ _ _ _ _ _ _ _ _ [] [] _ b a w5 hb ha (Lst.nil _ _ _ _) (Lst.nil _ _ _ _) L5 (Nat.le_refl _)).mono ?_
      rintro e w6 ⟨rfl, b6⟩
      rw [HFV.out]
      have b6 := b5.trans (b6.mono b5.size)
      clear q5 L5 b5 HF HFV
      go_wp2_with fail
      go_ret
      exact ⟨rfl, b6⟩
  · by_cases h2 : a = b
    · by_cases h0 : a = 0
      · have HF0 := ops_fin hN2 a b c n
        unfold wantO at HF0
        rw [if_neg h1, if_pos h2, if_pos h0] at HF0
        obtain ⟨F, hF⟩ : ∃ F, finishV 1 [] [] [⟨1, 2, 0, 0, 0, c⟩, ⟨1 + (N : Int), 0, 0, 1, 2, n⟩] b a = F := ⟨_, rfl⟩
        rw [hF] at HF0
        have HFV := Lib.hid hF
        have HF := Lib.hid HF0
        clear HF0 hF
        have H1 := Lib.hid h1
        have H2 := Lib.hid h2
        have H0 := Lib.hid h0
        clear h1 h2 h0
        have H63 := and63 b
        have hsh : (b % 64).toNat ≤ 63 := by omega
        generalize (b % 64).toNat = sh at HF H63 hsh
        have HWF := Lib.hid (show ∀ z ∈ [n, wrap64 (a + b), wrap64 (a - b), wrap64 (a * b), bits .and .i64 a b, bits .or .i64 a b, bits .xor .i64 a b, 0, 1, c, a / 2 ^ sh], (Lit.int .i64 z).wf = true by
          intro z hz
          simp only [List.mem_cons, List.not_mem_nil, or_false] at hz
          rcases hz with rfl | rfl | rfl | rfl | rfl | rfl | rfl | rfl | rfl | rfl | rfl
          · exact hn
          · exact wrap64_wf _
          · exact wrap64_wf _
          · exact wrap64_wf _
          · exact bits_wf' _ (.inl rfl) _ _
          · exact bits_wf' _ (.inr (.inl rfl)) _ _
          · exact bits_wf' _ (.inr (.inr rfl)) _ _
          · rfl
          · rfl
          · assumption
          · exact shr_wf ha)
        go_enter Try.func3, Try.ntmps3
        go_wp2_with (first
          | (refine wpList_build_blk rfl 24 #[_, _, _] rfl #[.int .i64 1, .int .i64 2, .int .i64 0, .int .i64 0, .int .i64 0, .int .i64 c] (by kernel_rfl) ?_)
          | (refine wpList_build_blk rfl 24 #[_, _, _, _, _, _] rfl #[.int .i64 (1 + (N : Int)), .int .i64 0, .int .i64 0, .int .i64 1, .int .i64 2, .int .i64 n] (by kernel_rfl) ?_)
          | (refine wpList_build_lst (w := w) (k := kO) rfl 25 24 2 _ rfl Try.underlying25 _ 48 info_op rfl [⟨1, 2, 0, 0, 0, c⟩, ⟨1 + (N : Int), 0, 0, 1, 2, n⟩] rfl (by kernel_rfl) (by omega) (by decide) ?_; intro w1 q1 g1 z1)
          | (refine wpList_build_blk rfl 27 _ rfl #[.int .i64 1, .slice none 0 0, .slice none 0 0, .slice (some ⟨w.heap.size, 0, none⟩) 2 2] (by kernel_rfl) ?_)
          | (refine wpList_alloc_blk (w := w1) rfl 27 rfl _ zero_prog ?_; intro w2 q2 g2 z2)
          | (refine wpList_store_blk (w := w2) rfl 27 _ _ rfl w1.heap.size 4 rfl 27 _ #[.int .i64 1, .slice none 0 0, .slice none 0 0, .slice (some ⟨w.heap.size, 0, none⟩) 2 2] rfl q2 info_prog rfl rfl (by kernel_rfl) ?_; intro w3 q3 g3 z3)
          | (refine wpList_run (w := w3) rfl (v := .bool false) (Held.y_lss (S := fun _ => True) rfl rfl rfl (decide_eq_false H1.out) _ trivial) ?_)
          | (refine wpList_run (w := w3) rfl (v := .bool true) (Held.y_eqI (S := fun _ => True) rfl rfl rfl (decide_eq_true H2.out) _ trivial) ?_)
          | (refine wpList_run (w := w3) rfl (v := .bool false) (Held.y_neI (S := fun _ => True) rfl rfl rfl (decide_eq_false (fun h => h H0.out)) _ trivial) ?_)
          | (refine wpList_shr (w := w3) rfl _ _ _ _ rfl .i64 .u64 a (a / 2 ^ sh) sh rfl rfl (by simp [IntKind.bits]; omega) rfl ?_)
          | (refine Held.wpList_build_row (w := w3) rfl 28 2 11 _ rfl .i64 8 [n, wrap64 (a + b), wrap64 (a - b), wrap64 (a * b), bits .and .i64 a b, bits .or .i64 a b, bits .xor .i64 a b, 0, 1, c, a / 2 ^ sh] Try.underlying28 info_i64 (by kernel_rfl) rfl (by omega) (by omega) HWF.out ?_; intro w4 r4 g4 z4; have hcell := r4.cell (i := N) (by simp; omega); rw [← HF.out] at hcell; have lw := q1.lt; have l1 := q2.lt; have l3 := q3.lt; have b3 : Below w.heap.size w w3 := (((Below.refl _ w).grown g1 (Nat.le_refl _) (by simp)).grown g2 g1.size (by simp)).grown g3 (Nat.le_trans g1.size g2.size) (fun r e => by cases e; exact g1.size); have b4 := b3.grown g4 b3.size (by simp); have q4 := q3.grown g4 (by simp); have ql : Blk w4 w.heap.size 24 (flat kO [⟨1, 2, 0, 0, 0, c⟩, ⟨1 + (N : Int), 0, 0, 1, 2, n⟩]).toArray := ((q1.grown g2 (by simp)).grown g3 (by intro e; injection e with e; omega)).grown g4 (by simp); have L4 : Lst kO w4 w4.heap.size (some ⟨w.heap.size, 0, none⟩) 2 [⟨1, 2, 0, 0, 0, c⟩, ⟨1 + (N : Int), 0, 0, 1, 2, n⟩] := lst_whole ql rfl HOW.out; clear q1 q2 q3 ql g1 g2 g3 g4 z1 z2 z3 z4 r4 b3))
        refine (awake11_any w4).mono ?_
        rintro e w5 ⟨rfl, b5⟩
        have q5 := q4.after b5
        have L5 := (L4.below b5).more b5.size
        have b5 := b4.trans (b5.mono b4.size)
        clear q4 L4 b4 hcell
        go_wp2_with (refine wpList_load_blk (w := w5) rfl 27 _ rfl w1.heap.size 4 rfl 27 _ q5 _ Try.underlying27 rfl (by kernel_rfl) rfl ?_)
        refine (finish_any w5.heap.size 1 _ _ _ _ _ _ _ _ _ [] [] _ b a w5 hb ha (Lst.nil _ _ _ _) (Lst.nil _ _ _ _) L5 (Nat.le_refl _)).mono ?_
        rintro e w6 ⟨rfl, b6⟩
        rw [HFV.out]
        have b6 := b5.trans (b6.mono b5.size)
        clear q5 L5 b5 HF HFV
        go_wp2_with fail
        go_ret
        exact ⟨rfl, b6⟩
      · have HF0 := ops_fin hN2 a b c n
        unfold wantO at HF0
        rw [if_neg h1, if_pos h2, if_neg h0] at HF0
        obtain ⟨F, hF⟩ : ∃ F, finishV 1 [] [] [⟨1, 2, 0, 0, 0, c⟩, ⟨1 + (N : Int), 0, 0, 1, 2, n⟩] b a = F := ⟨_, rfl⟩
        rw [hF] at HF0
        have HFV := Lib.hid hF
        have HF := Lib.hid HF0
        clear HF0 hF
        have H1 := Lib.hid h1
        have H2 := Lib.hid h2
        have H0 := Lib.hid h0
        clear h1 h2 h0
        have H63 := and63 b
        have hsh : (b % 64).toNat ≤ 63 := by omega
        generalize (b % 64).toNat = sh at HF H63 hsh
        have HWF := Lib.hid (show ∀ z ∈ [n, wrap64 (a + b), wrap64 (a - b), wrap64 (a * b), bits .and .i64 a b, bits .or .i64 a b, bits .xor .i64 a b, 0, 1, b, a / 2 ^ sh], (Lit.int .i64 z).wf = true by
          intro z hz
          simp only [List.mem_cons, List.not_mem_nil, or_false] at hz
          rcases hz with rfl | rfl | rfl | rfl | rfl | rfl | rfl | rfl | rfl | rfl | rfl
          · exact hn
          · exact wrap64_wf _
          · exact wrap64_wf _
          · exact wrap64_wf _
          · exact bits_wf' _ (.inl rfl) _ _
          · exact bits_wf' _ (.inr (.inl rfl)) _ _
          · exact bits_wf' _ (.inr (.inr rfl)) _ _
          · rfl
          · rfl
          · assumption
          · exact shr_wf ha)
        go_enter Try.func3, Try.ntmps3
        go_wp2_with (first
          | (refine wpList_build_blk rfl 24 #[_, _, _] rfl #[.int .i64 1, .int .i64 2, .int .i64 0, .int .i64 0, .int .i64 0, .int .i64 c] (by kernel_rfl) ?_)
          | (refine wpList_build_blk rfl 24 #[_, _, _, _, _, _] rfl #[.int .i64 (1 + (N : Int)), .int .i64 0, .int .i64 0, .int .i64 1, .int .i64 2, .int .i64 n] (by kernel_rfl) ?_)
          | (refine wpList_build_lst (w := w) (k := kO) rfl 25 24 2 _ rfl Try.underlying25 _ 48 info_op rfl [⟨1, 2, 0, 0, 0, c⟩, ⟨1 + (N : Int), 0, 0, 1, 2, n⟩] rfl (by kernel_rfl) (by omega) (by decide) ?_; intro w1 q1 g1 z1)
          | (refine wpList_build_blk rfl 27 _ rfl #[.int .i64 1, .slice none 0 0, .slice none 0 0, .slice (some ⟨w.heap.size, 0, none⟩) 2 2] (by kernel_rfl) ?_)
          | (refine wpList_alloc_blk (w := w1) rfl 27 rfl _ zero_prog ?_; intro w2 q2 g2 z2)
          | (refine wpList_store_blk (w := w2) rfl 27 _ _ rfl w1.heap.size 4 rfl 27 _ #[.int .i64 1, .slice none 0 0, .slice none 0 0, .slice (some ⟨w.heap.size, 0, none⟩) 2 2] rfl q2 info_prog rfl rfl (by kernel_rfl) ?_; intro w3 q3 g3 z3)
          | (refine wpList_run (w := w3) rfl (v := .bool false) (Held.y_lss (S := fun _ => True) rfl rfl rfl (decide_eq_false H1.out) _ trivial) ?_)
          | (refine wpList_run (w := w3) rfl (v := .bool true) (Held.y_eqI (S := fun _ => True) rfl rfl rfl (decide_eq_true H2.out) _ trivial) ?_)
          | (refine wpList_run (w := w3) rfl (v := .bool true) (Held.y_neI (S := fun _ => True) rfl rfl rfl (decide_eq_true H0.out) _ trivial) ?_)
          | (refine wpList_shr (w := w3) rfl _ _ _ _ rfl .i64 .u64 a (a / 2 ^ sh) sh rfl rfl (by simp [IntKind.bits]; omega) rfl ?_)
          | (refine Held.wpList_build_row (w := w3) rfl 28 2 11 _ rfl .i64 8 [n, wrap64 (a + b), wrap64 (a - b), wrap64 (a * b), bits .and .i64 a b, bits .or .i64 a b, bits .xor .i64 a b, 0, 1, b, a / 2 ^ sh] Try.underlying28 info_i64 (by kernel_rfl) rfl (by omega) (by omega) HWF.out ?_; intro w4 r4 g4 z4; have hcell := r4.cell (i := N) (by simp; omega); rw [← HF.out] at hcell; have lw := q1.lt; have l1 := q2.lt; have l3 := q3.lt; have b3 : Below w.heap.size w w3 := (((Below.refl _ w).grown g1 (Nat.le_refl _) (by simp)).grown g2 g1.size (by simp)).grown g3 (Nat.le_trans g1.size g2.size) (fun r e => by cases e; exact g1.size); have b4 := b3.grown g4 b3.size (by simp); have q4 := q3.grown g4 (by simp); have ql : Blk w4 w.heap.size 24 (flat kO [⟨1, 2, 0, 0, 0, c⟩, ⟨1 + (N : Int), 0, 0, 1, 2, n⟩]).toArray := ((q1.grown g2 (by simp)).grown g3 (by intro e; injection e with e; omega)).grown g4 (by simp); have L4 : Lst kO w4 w4.heap.size (some ⟨w.heap.size, 0, none⟩) 2 [⟨1, 2, 0, 0, 0, c⟩, ⟨1 + (N : Int), 0, 0, 1, 2, n⟩] := lst_whole ql rfl HOW.out; clear q1 q2 q3 ql g1 g2 g3 g4 z1 z2 z3 z4 r4 b3))
        refine (awake11_any w4).mono ?_
        rintro e w5 ⟨rfl, b5⟩
        have q5 := q4.after b5
        have L5 := (L4.below b5).more b5.size
        have b5 := b4.trans (b5.mono b4.size)
        clear q4 L4 b4 hcell
        go_wp2_with (refine wpList_load_blk (w := w5) rfl 27 _ rfl w1.heap.size 4 rfl 27 _ q5 _ Try.underlying27 rfl (by kernel_rfl) rfl ?_)
        refine (finish_any w5.heap.size 1 _ _ _ _ _ _ _ _ _ [] [] _ b a w5 hb ha (Lst.nil _ _ _ _) (Lst.nil _ _ _ _) L5 (Nat.le_refl _)).mono ?_
        rintro e w6 ⟨rfl, b6⟩
        rw [HFV.out]
        have b6 := b5.trans (b6.mono b5.size)
        clear q5 L5 b5 HF HFV
        go_wp2_with fail
        go_ret
        exact ⟨rfl, b6⟩
    · by_cases h0 : a = 0
      · have HF0 := ops_fin hN2 a b c n
        unfold wantO at HF0
        rw [if_neg h1, if_neg h2, if_pos h0] at HF0
        obtain ⟨F, hF⟩ : ∃ F, finishV 1 [] [] [⟨1, 2, 0, 0, 0, c⟩, ⟨1 + (N : Int), 0, 0, 1, 2, n⟩] b a = F := ⟨_, rfl⟩
        rw [hF] at HF0
        have HFV := Lib.hid hF
        have HF := Lib.hid HF0
        clear HF0 hF
        have H1 := Lib.hid h1
        have H2 := Lib.hid h2
        have H0 := Lib.hid h0
        clear h1 h2 h0
        have H63 := and63 b
        have hsh : (b % 64).toNat ≤ 63 := by omega
        generalize (b % 64).toNat = sh at HF H63 hsh
        have HWF := Lib.hid (show ∀ z ∈ [n, wrap64 (a + b), wrap64 (a - b), wrap64 (a * b), bits .and .i64 a b, bits .or .i64 a b, bits .xor .i64 a b, 0, 0, c, a / 2 ^ sh], (Lit.int .i64 z).wf = true by
          intro z hz
          simp only [List.mem_cons, List.not_mem_nil, or_false] at hz
          rcases hz with rfl | rfl | rfl | rfl | rfl | rfl | rfl | rfl | rfl | rfl | rfl
          · exact hn
          · exact wrap64_wf _
          · exact wrap64_wf _
          · exact wrap64_wf _
          · exact bits_wf' _ (.inl rfl) _ _
          · exact bits_wf' _ (.inr (.inl rfl)) _ _
          · exact bits_wf' _ (.inr (.inr rfl)) _ _
          · rfl
          · rfl
          · assumption
          · exact shr_wf ha)
        go_enter Try.func3, Try.ntmps3
        go_wp2_with (first
          | (refine wpList_build_blk rfl 24 #[_, _, _] rfl #[.int .i64 1, .int .i64 2, .int .i64 0, .int .i64 0, .int .i64 0, .int .i64 c] (by kernel_rfl) ?_)
          | (refine wpList_build_blk rfl 24 #[_, _, _, _, _, _] rfl #[.int .i64 (1 + (N : Int)), .int .i64 0, .int .i64 0, .int .i64 1, .int .i64 2, .int .i64 n] (by kernel_rfl) ?_)
          | (refine wpList_build_lst (w := w) (k := kO) rfl 25 24 2 _ rfl Try.underlying25 _ 48 info_op rfl [⟨1, 2, 0, 0, 0, c⟩, ⟨1 + (N : Int), 0, 0, 1, 2, n⟩] rfl (by kernel_rfl) (by omega) (by decide) ?_; intro w1 q1 g1 z1)
          | (refine wpList_build_blk rfl 27 _ rfl #[.int .i64 1, .slice none 0 0, .slice none 0 0, .slice (some ⟨w.heap.size, 0, none⟩) 2 2] (by kernel_rfl) ?_)
          | (refine wpList_alloc_blk (w := w1) rfl 27 rfl _ zero_prog ?_; intro w2 q2 g2 z2)
          | (refine wpList_store_blk (w := w2) rfl 27 _ _ rfl w1.heap.size 4 rfl 27 _ #[.int .i64 1, .slice none 0 0, .slice none 0 0, .slice (some ⟨w.heap.size, 0, none⟩) 2 2] rfl q2 info_prog rfl rfl (by kernel_rfl) ?_; intro w3 q3 g3 z3)
          | (refine wpList_run (w := w3) rfl (v := .bool false) (Held.y_lss (S := fun _ => True) rfl rfl rfl (decide_eq_false H1.out) _ trivial) ?_)
          | (refine wpList_run (w := w3) rfl (v := .bool false) (Held.y_eqI (S := fun _ => True) rfl rfl rfl (decide_eq_false H2.out) _ trivial) ?_)
          | (refine wpList_run (w := w3) rfl (v := .bool false) (Held.y_neI (S := fun _ => True) rfl rfl rfl (decide_eq_false (fun h => h H0.out)) _ trivial) ?_)
          | (refine wpList_shr (w := w3) rfl _ _ _ _ rfl .i64 .u64 a (a / 2 ^ sh) sh rfl rfl (by simp [IntKind.bits]; omega) rfl ?_)
          | (refine Held.wpList_build_row (w := w3) rfl 28 2 11 _ rfl .i64 8 [n, wrap64 (a + b), wrap64 (a - b), wrap64 (a * b), bits .and .i64 a b, bits .or .i64 a b, bits .xor .i64 a b, 0, 0, c, a / 2 ^ sh] Try.underlying28 info_i64 (by kernel_rfl) rfl (by omega) (by omega) HWF.out ?_; intro w4 r4 g4 z4; have hcell := r4.cell (i := N) (by simp; omega); rw [← HF.out] at hcell; have lw := q1.lt; have l1 := q2.lt; have l3 := q3.lt; have b3 : Below w.heap.size w w3 := (((Below.refl _ w).grown g1 (Nat.le_refl _) (by simp)).grown g2 g1.size (by simp)).grown g3 (Nat.le_trans g1.size g2.size) (fun r e => by cases e; exact g1.size); have b4 := b3.grown g4 b3.size (by simp); have q4 := q3.grown g4 (by simp); have ql : Blk w4 w.heap.size 24 (flat kO [⟨1, 2, 0, 0, 0, c⟩, ⟨1 + (N : Int), 0, 0, 1, 2, n⟩]).toArray := ((q1.grown g2 (by simp)).grown g3 (by intro e; injection e with e; omega)).grown g4 (by simp); have L4 : Lst kO w4 w4.heap.size (some ⟨w.heap.size, 0, none⟩) 2 [⟨1, 2, 0, 0, 0, c⟩, ⟨1 + (N : Int), 0, 0, 1, 2, n⟩] := lst_whole ql rfl HOW.out; clear q1 q2 q3 ql g1 g2 g3 g4 z1 z2 z3 z4 r4 b3))
        refine (awake11_any w4).mono ?_
        rintro e w5 ⟨rfl, b5⟩
        have q5 := q4.after b5
        have L5 := (L4.below b5).more b5.size
        have b5 := b4.trans (b5.mono b4.size)
        clear q4 L4 b4 hcell
        go_wp2_with (refine wpList_load_blk (w := w5) rfl 27 _ rfl w1.heap.size 4 rfl 27 _ q5 _ Try.underlying27 rfl (by kernel_rfl) rfl ?_)
        refine (finish_any w5.heap.size 1 _ _ _ _ _ _ _ _ _ [] [] _ b a w5 hb ha (Lst.nil _ _ _ _) (Lst.nil _ _ _ _) L5 (Nat.le_refl _)).mono ?_
        rintro e w6 ⟨rfl, b6⟩
        rw [HFV.out]
        have b6 := b5.trans (b6.mono b5.size)
        clear q5 L5 b5 HF HFV
        go_wp2_with fail
        go_ret
        exact ⟨rfl, b6⟩
      · have HF0 := ops_fin hN2 a b c n
        unfold wantO at HF0
        rw [if_neg h1, if_neg h2, if_neg h0] at HF0
        obtain ⟨F, hF⟩ : ∃ F, finishV 1 [] [] [⟨1, 2, 0, 0, 0, c⟩, ⟨1 + (N : Int), 0, 0, 1, 2, n⟩] b a = F := ⟨_, rfl⟩
        rw [hF] at HF0
        have HFV := Lib.hid hF
        have HF := Lib.hid HF0
        clear HF0 hF
        have H1 := Lib.hid h1
        have H2 := Lib.hid h2
        have H0 := Lib.hid h0
        clear h1 h2 h0
        have H63 := and63 b
        have hsh : (b % 64).toNat ≤ 63 := by omega
        generalize (b % 64).toNat = sh at HF H63 hsh
        have HWF := Lib.hid (show ∀ z ∈ [n, wrap64 (a + b), wrap64 (a - b), wrap64 (a * b), bits .and .i64 a b, bits .or .i64 a b, bits .xor .i64 a b, 0, 0, b, a / 2 ^ sh], (Lit.int .i64 z).wf = true by
          intro z hz
          simp only [List.mem_cons, List.not_mem_nil, or_false] at hz
          rcases hz with rfl | rfl | rfl | rfl | rfl | rfl | rfl | rfl | rfl | rfl | rfl
          · exact hn
          · exact wrap64_wf _
          · exact wrap64_wf _
          · exact wrap64_wf _
          · exact bits_wf' _ (.inl rfl) _ _
          · exact bits_wf' _ (.inr (.inl rfl)) _ _
          · exact bits_wf' _ (.inr (.inr rfl)) _ _
          · rfl
          · rfl
          · assumption
          · exact shr_wf ha)
        go_enter Try.func3, Try.ntmps3
        go_wp2_with (first
          | (refine wpList_build_blk rfl 24 #[_, _, _] rfl #[.int .i64 1, .int .i64 2, .int .i64 0, .int .i64 0, .int .i64 0, .int .i64 c] (by kernel_rfl) ?_)
          | (refine wpList_build_blk rfl 24 #[_, _, _, _, _, _] rfl #[.int .i64 (1 + (N : Int)), .int .i64 0, .int .i64 0, .int .i64 1, .int .i64 2, .int .i64 n] (by kernel_rfl) ?_)
          | (refine wpList_build_lst (w := w) (k := kO) rfl 25 24 2 _ rfl Try.underlying25 _ 48 info_op rfl [⟨1, 2, 0, 0, 0, c⟩, ⟨1 + (N : Int), 0, 0, 1, 2, n⟩] rfl (by kernel_rfl) (by omega) (by decide) ?_; intro w1 q1 g1 z1)
          | (refine wpList_build_blk rfl 27 _ rfl #[.int .i64 1, .slice none 0 0, .slice none 0 0, .slice (some ⟨w.heap.size, 0, none⟩) 2 2] (by kernel_rfl) ?_)
          | (refine wpList_alloc_blk (w := w1) rfl 27 rfl _ zero_prog ?_; intro w2 q2 g2 z2)
          | (refine wpList_store_blk (w := w2) rfl 27 _ _ rfl w1.heap.size 4 rfl 27 _ #[.int .i64 1, .slice none 0 0, .slice none 0 0, .slice (some ⟨w.heap.size, 0, none⟩) 2 2] rfl q2 info_prog rfl rfl (by kernel_rfl) ?_; intro w3 q3 g3 z3)
          | (refine wpList_run (w := w3) rfl (v := .bool false) (Held.y_lss (S := fun _ => True) rfl rfl rfl (decide_eq_false H1.out) _ trivial) ?_)
          | (refine wpList_run (w := w3) rfl (v := .bool false) (Held.y_eqI (S := fun _ => True) rfl rfl rfl (decide_eq_false H2.out) _ trivial) ?_)
          | (refine wpList_run (w := w3) rfl (v := .bool true) (Held.y_neI (S := fun _ => True) rfl rfl rfl (decide_eq_true H0.out) _ trivial) ?_)
          | (refine wpList_shr (w := w3) rfl _ _ _ _ rfl .i64 .u64 a (a / 2 ^ sh) sh rfl rfl (by simp [IntKind.bits]; omega) rfl ?_)
          | (refine Held.wpList_build_row (w := w3) rfl 28 2 11 _ rfl .i64 8 [n, wrap64 (a + b), wrap64 (a - b), wrap64 (a * b), bits .and .i64 a b, bits .or .i64 a b, bits .xor .i64 a b, 0, 0, b, a / 2 ^ sh] Try.underlying28 info_i64 (by kernel_rfl) rfl (by omega) (by omega) HWF.out ?_; intro w4 r4 g4 z4; have hcell := r4.cell (i := N) (by simp; omega); rw [← HF.out] at hcell; have lw := q1.lt; have l1 := q2.lt; have l3 := q3.lt; have b3 : Below w.heap.size w w3 := (((Below.refl _ w).grown g1 (Nat.le_refl _) (by simp)).grown g2 g1.size (by simp)).grown g3 (Nat.le_trans g1.size g2.size) (fun r e => by cases e; exact g1.size); have b4 := b3.grown g4 b3.size (by simp); have q4 := q3.grown g4 (by simp); have ql : Blk w4 w.heap.size 24 (flat kO [⟨1, 2, 0, 0, 0, c⟩, ⟨1 + (N : Int), 0, 0, 1, 2, n⟩]).toArray := ((q1.grown g2 (by simp)).grown g3 (by intro e; injection e with e; omega)).grown g4 (by simp); have L4 : Lst kO w4 w4.heap.size (some ⟨w.heap.size, 0, none⟩) 2 [⟨1, 2, 0, 0, 0, c⟩, ⟨1 + (N : Int), 0, 0, 1, 2, n⟩] := lst_whole ql rfl HOW.out; clear q1 q2 q3 ql g1 g2 g3 g4 z1 z2 z3 z4 r4 b3))
        refine (awake11_any w4).mono ?_
        rintro e w5 ⟨rfl, b5⟩
        have q5 := q4.after b5
        have L5 := (L4.below b5).more b5.size
        have b5 := b4.trans (b5.mono b4.size)
        clear q4 L4 b4 hcell
        go_wp2_with (refine wpList_load_blk (w := w5) rfl 27 _ rfl w1.heap.size 4 rfl 27 _ q5 _ Try.underlying27 rfl (by kernel_rfl) rfl ?_)
        refine (finish_any w5.heap.size 1 _ _ _ _ _ _ _ _ _ [] [] _ b a w5 hb ha (Lst.nil _ _ _ _) (Lst.nil _ _ _ _) L5 (Nat.le_refl _)).mono ?_
        rintro e w6 ⟨rfl, b6⟩
        rw [HFV.out]
        have b6 := b5.trans (b6.mono b5.size)
        clear q5 L5 b5 HF HFV
        go_wp2_with fail
        go_ret
        exact ⟨rfl, b6⟩
theorem walk (a0 : Int) (a1 : Int) (a2 : Int) (a3 : Int) (a4 : Int) (w : World) (w0 : (Lit.int .i64 a0).wf = true) (w1 : (Lit.int .i64 a1).wf = true) (w2 : (Lit.int .i64 a2).wf = true) (w3 : (Lit.int .i64 a3).wf = true) (w4 : (Lit.int .i64 a4).wf = true) :
    Calls Try.prog 3 #[.int .i64 a0, .int .i64 a1, .int .i64 a2, .int .i64 a3, .int .i64 a4] w fun e w' => e = .returned (.bool true) ∧ Below w.heap.size w w' := by
  exact start a0 a1 a2 a3 a4 w w1 w2 w3 w4
set_option maxRecDepth 100000 in
theorem lifted (os : Os) (started : os.Started) (H : Type) (enc : TypeId × Value → H) :
    ReturnsInHanded {} Try.checked os 3 .any (Rows.vmOpsSpec.pre6 enc Try.prog Try.f3 Rows.vmOpsRow.domain false) (Rows.vmOpsSpec.post enc Try.prog Try.f3 false true false false) := by
  refine returnsInHanded_of_change (C := Try.checked) own started (by kernel_rfl) Try.func3
    (ChangeSpec.witness6 (enc := enc) (C := Try.checked) false ⟨#[], #[.int .i64 0, .int .i64 0, .int .i64 0, .int .i64 0, .int .i64 0], []⟩ 8 (by kernel_rfl) (by kernel_rfl) (by kernel_rfl) (by kernel_rfl)) ?_
  intro W base args ds gs before hval0 hW hcnd _
  have hval : ∀ (j : Nat) t v, Try.f3.params[j]? = some t → args[j]? = some v → Value.okWide Try.prog W .any base t v := hval0
  have hW' := hW
  obtain ⟨p, q, hA0, hV, rfl, hfz, hnd⟩ := hW
  have hA : DataW.TrodAll enc Try.prog W 0 (fun _ => true) true Try.f3.params.toList args.toList ds p := hA0
  rw [Try.params3] at hA hval
  obtain ⟨v0, vs0, d0, ds0, p0, q0, hargs, rfl, rfl, h0, r0⟩ := trodAll_cons hA
  obtain ⟨v1, vs1, d1, ds1, p1, q1, rfl, rfl, rfl, h1, r1⟩ := trodAll_cons r0
  obtain ⟨v2, vs2, d2, ds2, p2, q2, rfl, rfl, rfl, h2, r2⟩ := trodAll_cons r1
  obtain ⟨v3, vs3, d3, ds3, p3, q3, rfl, rfl, rfl, h3, r3⟩ := trodAll_cons r2
  obtain ⟨v4, vs4, d4, ds4, p4, q4, rfl, rfl, rfl, h4, r4⟩ := trodAll_cons r3
  obtain ⟨rfl, rfl, rfl⟩ := trodAll_nil r4
  obtain rfl : args = #[v0, v1, v2, v3, v4] := by cases args; simp_all
  obtain ⟨rfl, rfl⟩ := trodVars_none hV
  obtain ⟨a0, rfl, rfl, rfl, w0⟩ := open_int Try.underlying3 (hval 0 3 v0 rfl rfl) h0
  obtain ⟨a1, rfl, rfl, rfl, w1⟩ := open_int Try.underlying2 (hval 1 2 v1 rfl rfl) h1
  obtain ⟨a2, rfl, rfl, rfl, w2⟩ := open_int Try.underlying2 (hval 2 2 v2 rfl rfl) h2
  obtain ⟨a3, rfl, rfl, rfl, w3⟩ := open_int Try.underlying2 (hval 3 2 v3 rfl rfl) h3
  obtain ⟨a4, rfl, rfl, rfl, w4⟩ := open_int Try.underlying2 (hval 4 2 v4 rfl rfl) h4
  clear hA0 hval0
  refine (walk a0 a1 a2 a3 a4 W w0 w1 w2 w3 w4).mono fun e W' ⟨he, bel⟩ => ?_
  subst he
  exact ⟨_, rfl, _, _, _, [], _, [], hW', trodAll_mk1 (shut_bool Try.underlying4 _), (trodAll_cons_mk (shut_int Try.underlying3 w0) (trodAll_cons_mk (shut_int Try.underlying2 w1) (trodAll_cons_mk (shut_int Try.underlying2 w2) (trodAll_cons_mk (shut_int Try.underlying2 w3) (trodAll_cons_mk (shut_int Try.underlying2 w4) trodAll_mk0))))), rfl, bel.frame _, fun h => by cases h⟩
theorem over : Rows.vmOpsRow.holds Try.pinned (OpenSpec.ofChange Rows.vmOpsSpec) :=
  OpenClaim.holds_of_wide 3 Try.f3 rfl rfl rfl rfl rfl rfl rfl ⟨rfl, rfl, rfl, rfl, rfl⟩ rfl rfl rfl rfl rfl (by kernel_rfl) Try.func3 (by kernel_rfl)
    (of_decide_eq_true (by kernel_rfl)) (by unfold Func.isWrapper; first | (rw [if_pos (by decide +kernel)]; kernel_rfl) | (rw [if_neg (by decide +kernel)]; exact ⟨rfl, rfl⟩))
    (fun os started H enc _ => lifted os started H enc)
theorem proved : Rows.VmOpsSaid :=
  over
#print axioms proved
end Go.Proofs.Yteipkkakjgfchaa.vmOps
