/-
  The law PipeOrder of package dominolaw16 returns true for every list of pairs, every list of turns and every number: of a program that adds what comes out is the same in whatever order pairs go in.
-/
import Derived.Test.YtlinmcgmkpkpaaaDoorRows
import Derived.Test.YtlinmcgmkpkpaaaDoorCards
import Derived.Test.YtlinmcgmkpkpaaaDoorTie
import Derived.SevenTiedAt
import Derived.WalkKit
import Derived.ProofKit
import Derived.OpenShut
import Derived.ShutString
import Derived.ChangeOld
import Derived.Below
import Derived.LaidMore
import Derived.Stop.Joined
import Derived.Test.YtlinmcgmkpkpaaaDoorB19
namespace Go.Proofs.YtlinmcgmkpkpaaaDoor.pipeOrder
open Go.ChangeShapes Go.WideShapes Go.ChangeAt Go.RowKit
open Go.ChangeMaps (open_string shut_string)
open Go.Shelf Go.Proofs.YtlinmcgmkpkpaaaDoor Mem Held Ct Rc Rs Sl Vm Sp Mg Go.Proofs.YtlinmcgmkpkpaaaDoor.Pi
theorem own : ownKnob Tryd.prog.godebug = none := by kernel_rfl
theorem laidOut : laidOutB Tryd.prog = true := by kernel_rfl
def IsRow (k : IntKind) (w : World) (a : Option Addr) (len cap : Nat) (zs : List Int) : Prop :=
  (a = none ∧ len = 0 ∧ cap = 0 ∧ zs = []) ∨
  ∃ x, a = some x ∧ len ≤ cap ∧ cap ≤ maxLen ∧ zs.length = cap ∧ (∀ i, i < zs.length → w.cell? (x.add i) = some (.int k (zs.getD i 0))) ∧ ∀ n ∈ zs, (Lit.int k n).wf = true
def laidList : List (String × DataW Unit) := [("math/bits.deBruijn32tab", Rows.laid_math_bits_deBruijn32tab), ("math/bits.deBruijn64tab", Rows.laid_math_bits_deBruijn64tab)]
attribute [local irreducible] wpList wpListIn Calls
attribute [local go_sem] Oper.semAt_some
theorem size_of (x : Int) : ∃ (N : Int) (a b : Nat), IntKind.u64.wrap x = N ∧ N.tmod 3 = (a : Int) ∧ IntKind.i64.wrap (a : Int) = (a : Int) ∧ IntKind.i64.wrap (1 + (a : Int)) = (b : Int) ∧ 1 ≤ b ∧ b ≤ 3 := by
  obtain ⟨N, hN⟩ : ∃ N : Int, IntKind.u64.wrap x = N := ⟨_, rfl⟩
  have hN0 : 0 ≤ N := by rw [← hN, IntKind.wrap_u64]; omega
  refine ⟨N, (N % 3).toNat, (N % 3).toNat + 1, hN, ?_, ?_, ?_, by omega, by omega⟩
  · rw [Int.tmod_eq_emod_of_nonneg hN0]; omega
  · rw [IntKind.wrap_i64]; omega
  · rw [IntKind.wrap_i64]; omega
theorem place_of (x : Int) (n : Nat) (hn1 : 1 ≤ n) (hn : n ≤ 7) : ∃ (N : Int) (k : Nat), IntKind.u64.wrap x = N ∧ IntKind.u64.wrap (n : Int) = (n : Int) ∧ N.tmod (n : Int) = (k : Int) ∧ IntKind.i64.wrap (k : Int) = (k : Int) ∧ k < n := by
  obtain ⟨N, hN⟩ : ∃ N : Int, IntKind.u64.wrap x = N := ⟨_, rfl⟩
  have hN0 : 0 ≤ N := by rw [← hN, IntKind.wrap_u64]; omega
  have h1 := Int.emod_nonneg N (show (n : Int) ≠ 0 by omega)
  have h2 := Int.emod_lt_of_pos N (show (0 : Int) < (n : Int) by omega)
  refine ⟨N, (N % (n : Int)).toNat, hN, ?_, ?_, ?_, by omega⟩
  · rw [IntKind.wrap_u64]; omega
  · rw [Int.tmod_eq_emod_of_nonneg hN0]; omega
  · rw [IntKind.wrap_i64]; omega
theorem order_right {n b : Nat} (hn1 : 1 ≤ n) (hn : n ≤ 7) (hb1 : 1 ≤ b) (hb : b ≤ 3) : rightB (n : Int) ((1 : Nat) : Int) (b : Int) 1 = true := by
  have h1 : ((n : Int) + (b : Int) - 1) / (b : Int) < 8 := by rw [Int.ediv_lt_iff_lt_mul (by omega)]; omega
  simp only [rightB, Bool.and_eq_true, decide_eq_true_eq]
  omega
theorem own_range {t : TypeId} {w : World} {base g n cap i : Nat} {xs : List (Int × Int)} (h : OwnL kP t w base (.slice (some ⟨g, 0, none⟩) n cap) xs) (hw : ∀ x ∈ xs, pwf x) (hi : i < xs.length) : w.rangeAt g (0 + i * 2) [.int .i64 (xs.getD i (0, 0)).1, .int .i64 (xs.getD i (0, 0)).2] := by
  have hl := OwnL.lst h hw
  obtain ⟨b, off, e, _, hx⟩ := Lst.at_ hl (i := i) (by rw [← hl.1]; exact hi)
  injection e with e
  injection e with e1 e2
  subst e1
  subst e2
  exact hx
theorem sums_one (w : World) : Calls Tryd.prog 17 #[.int .i64 1] w fun e w' => ∃ A n c g, e = .returned (.agg #[.int .i64 1, .slice A n c, .slice (some ⟨g, 0, none⟩) 1 1, .slice none 0 0]) ∧
    Lst kO w' w'.heap.size A n (sumM 1) ∧ Lst kO w' w'.heap.size (some ⟨g, 0, none⟩) 1 [OA] ∧ Below w.heap.size w w' :=
  (sums_any 1 (by omega) (by omega) w).mono fun e w' ⟨A, n, c, g, h1, h2, h3, _, _, h4⟩ => ⟨A, n, c, g, h1, h2, h3, h4⟩
theorem run_sum (B b n : Nat) (A1 A2 A : Option Addr) (n1 c1 n2 c2 c : Nat) (ps : List (Int × Int)) (w : World) (h1 : Lst kO w B A1 n1 (sumM 1)) (h2 : Lst kO w B A2 n2 [OA]) (hp : Lst kP w B A n ps) (hB : B ≤ w.heap.size) (hR : rightB (n : Int) ((1 : Nat) : Int) (b : Int) 1 = true) (hT : Bi.TzT w) :
    Calls Tryd.prog 9 #[.agg #[.int .i64 1, .slice A1 n1 c1, .slice A2 n2 c2, .slice none 0 0], .agg #[.int .i64 (n : Int), .int .i64 1, .int .i64 (b : Int), .int .i64 1], .slice A n c] w fun e w' => ∃ v X, e = .returned (.tuple #[v, .int .i64 0]) ∧ OwnL kP 39 w' w.heap.size v X ∧
      (∀ x ∈ X, pwf x) ∧ IsTold (foldV ((1 : Nat) : Int) (sumM 1) [OA] []) (Sp.live ((1 : Nat) : Int) (sumM 1) [OA] [] ps) X ∧ X.length ≤ 256 ∧ Below w.heap.size w w' :=
  (run_told2 B 1 b n 1 A1 A2 none A n1 c1 n2 c2 0 0 c (sumM 1) [OA] [] ps w h1 h2 (Lst.nil _ _ _ _) hp hB sum1_check hR hT).mono fun e w' ⟨v, X, h1, h2, h3, h4, h5, h6⟩ => by
    have hx : (X.map fun p => (p.1, finishV ((1 : Nat) : Int) (sumM 1) [OA] [] p.1 p.2)) = X := by
      rw [show (fun p : Int × Int => (p.1, finishV ((1 : Nat) : Int) (sumM 1) [OA] [] p.1 p.2)) = id from funext fun p => by rw [sum1_finish]; rfl, List.map_id]
    rw [hx] at h2 h3
    exact ⟨v, X, h1, h2, h3, h4, h5, h6⟩
theorem par_zero : (Tryd.prog.info? 28).bind (·.zero) = some (.agg #[.int .i64 0, .int .i64 0, .int .i64 0, .int .i64 0]) := by kernel_rfl
set_option maxRecDepth 100000 in
set_option maxHeartbeats 16000000 in
theorem start (A : Option Addr) (n c : Nat) (ps : List (Int × Int)) (At : Option Addr) (nt ct : Nat) (ts : List Int) (num : Int) (w : World) (hp : Lst kP w w.heap.size A n ps) (hcm : c ≤ maxLen) (ht : Ints w .i64 w.heap.size At nt ts) (hnt : nt ≤ 9223372036854775807) (hT : Bi.TzT w) :
    Calls Tryd.prog 5 #[.slice A n c, .slice At nt ct, .int .i64 num] w fun e w' => e = .returned (.bool true) ∧ Below w.heap.size w w' := by
  by_cases h0 : n = 0
  · subst h0
    go_enter Tryd.func5, Tryd.ntmps5
    go_wp2_with fail
    refine (awake16_any w).mono ?_
    rintro e w1 ⟨rfl, b1⟩
    go_wp2_with fail
    go_ret
    exact ⟨rfl, b1⟩
  by_cases h7 : 7 < n
  · have h7' : (7 : Int) < (n : Int) := by omega
    have h0' : ¬ (n : Int) = 0 := by omega
    go_enter Tryd.func5, Tryd.ntmps5
    go_wp2_with fail
    refine (awake16_any w).mono ?_
    rintro e w1 ⟨rfl, b1⟩
    go_wp2_with fail
    go_ret
    exact ⟨rfl, b1⟩
  have hn1 : 1 ≤ n := by omega
  have hn7 : n ≤ 7 := by omega
  have h7' : ¬ (7 : Int) < (n : Int) := by omega
  have h0' : ¬ (n : Int) = 0 := by omega
  obtain ⟨N, a, b, e1, e2, e3, e4, hb1, hb3⟩ := size_of num
  go_enter Tryd.func5, Tryd.ntmps5
  go_wp2_with (first
    | (refine on 31 ?_; refine wpList_build_blk rfl 28 _ rfl #[.int .i64 (n : Int), .int .i64 1, .int .i64 (b : Int), .int .i64 1] (by kernel_rfl) ?_)
    | (refine on 7 ?_; refine wpList_alloc_blk (w := w) rfl 28 rfl _ par_zero ?_; intro w1 q1 g1 z1; have b1 : Below w.heap.size w w1 := (Below.refl _ w).grown g1 (Nat.le_refl _) (by simp); have s1 : w1.heap.size = w.heap.size + 1 := z1.out)
    | (refine onS 7 ?_; refine wpList_store_blk (w := w1) rfl 28 _ _ rfl w.heap.size 4 rfl 28 _ #[.int .i64 (n : Int), .int .i64 1, .int .i64 (b : Int), .int .i64 1] rfl q1 size_params rfl rfl (by kernel_rfl) ?_; intro w2 q1 g2 _; have b2 := b1.grown g2 (by omega) (fun r e => by cases e; exact Nat.le_refl _); have s2 := g2.size; have hp2 := hp.below b2; have ht2 := ht.below b2)
    | (refine on 33 ?_; refine wpList_append_all (k := kP) (w := w2) rfl _ _ 29 39 rfl Tryd.underlying29 _ 16 info_kP rfl w2.heap.size w.heap.size n c A (.slice none 0 0) [] ps rfl rfl (OwnL.nil _ _ _ _) hp2 (by simp; omega) (by omega) (Nat.le_refl _) ?_; intro V w3 o3 g3 me3; obtain ⟨A3, n3, c3, rfl, hn3, _⟩ := OwnL.form2 o3; have b3 := b2.grown g3 (by omega) (by simp [Value.ownBlock]); have c23 := (Below.refl w2.heap.size w2).grown g3 (Nat.le_refl _) (by simp [Value.ownBlock])))
  rw [List.nil_append] at o3 hn3
  obtain rfl : n3 = n := hn3.out.symm.trans hp.1
  obtain ⟨g0, rfl, hg0, hg1, _⟩ := own_at0 o3 (by omega)
  have hpw := hp.2.1
  have hpl := hp.1
  have hTw := hT.lt
  have s2' : w.heap.size < w2.heap.size := by omega
  clear me3 hn3 g1 g2 g3 z1 e1 e2 e3 e4
  go_loopw [9, 10] (fun iv kv wr => ∃ (i : Nat) (qs : List (Int × Int)), i ≤ 20 ∧ iv = .int .i64 i ∧ qs.Perm ps ∧ OwnL kP 39 wr w2.heap.size (.slice (some ⟨g0, 0, none⟩) n3 c3) qs ∧ Below w2.heap.size w2 wr) (fun i _ _ => 20 - (intOf i).toNat)
  case atStart => exact ⟨0, ps, by omega, rfl, List.Perm.refl _, o3, c23⟩
  case round =>
    clear o3 c23
    obtain ⟨i, qs, hi, rfl, hqp, oq, cq⟩ := hrel
    have hql : qs.length = n3 := hqp.length_eq.trans hpl
    have hqw : ∀ x ∈ qs, pwf x := fun x hx => hpw x (hqp.mem_iff.1 hx)
    by_cases hlt : i < nt ∧ i < 20
    · obtain ⟨hlt, hl20⟩ := hlt
      obtain ⟨bt, off, rfl, hbt, hx⟩ := (ht2.below (cq.mono (by omega))).at_ hlt
      obtain ⟨x, hxe⟩ : ∃ x, ts.getD i 0 = x := ⟨_, rfl⟩
      rw [hxe] at hx
      clear hxe
      obtain ⟨M, k, m1, m2, m3, m4, hk⟩ := place_of x n3 hn1 hn7
      obtain ⟨j, hj, hjn⟩ : ∃ j : Nat, (i : Int).tmod (n3 : Int) = (j : Int) ∧ j < n3 := ⟨i % n3, by rw [Int.tmod_eq_emod_of_nonneg (by omega)]; omega, Nat.mod_lt _ (by omega)⟩
      have hlt1 : (i : Int) < (nt : Int) := by omega
      have hlt2 : (i : Int) < 20 := by omega
      have M1 := Lib.hid m1
      have M2 := Lib.hid m2
      have M3 := Lib.hid m3
      have M4 := Lib.hid m4
      have HJ := Lib.hid hj
      clear m1 m2 m3 m4 hj
      go_wp2_with (first
        | (refine on 48 ?_; refine wpList_run (w := wr) rfl (v := .int .u64 M) (Held.y_convert (S := fun _ => True) rfl rfl (by kernel_rfl) Tryd.underlying44 M1.out _ trivial) ?_)
        | (refine on 51 ?_; refine wpList_run (w := wr) rfl (v := .int .u64 (n3 : Int)) (Held.y_convert (S := fun _ => True) rfl rfl (by kernel_rfl) Tryd.underlying44 M2.out _ trivial) ?_)
        | (refine on 52 ?_; refine wpList_run (w := wr) rfl (v := .int .u64 (k : Int)) (Bi.y_rem (S := fun _ => True) M (n3 : Int) rfl rfl rfl (Held.run_rem 44 .u64 (by omega) M3.out) _ trivial) ?_)
        | (refine on 53 ?_; refine wpList_run (w := wr) rfl (v := .int .i64 (k : Int)) (Held.y_convert (S := fun _ => True) rfl rfl (by kernel_rfl) Tryd.underlying3 M4.out _ trivial) ?_))
      refine Held.wp_region_bar (s := 19) (T := fun X => OwnL kP 39 X w2.heap.size (.slice (some ⟨g0, 0, none⟩) n3 c3) qs) (by kernel_rfl) ?_
      change wpAnyB _ _ _ _ _ _ _ _ _ wr.drew
      have D0 := (Below.refl wr.heap.size wr).drew
      have T0 : OwnL kP 39 wr.drew w2.heap.size (.slice (some ⟨g0, 0, none⟩) n3 c3) qs := OwnL.below oq D0
      refine Held.takeA (v := .slice (some ⟨g0, 0, none⟩) n3 c3) 0 (some 54) rfl rfl (by kernel_rfl) (by kernel_rfl) (by kernel_rfl) (by decide) (fun _ _ _ h => h) rfl (Held.y_move rfl rfl) (fun _ => T0) ?_
      simp only [Act.put, Z1, Z2, Z3]
      refine Held.takeA (v := .int .i64 (i : Int)) 1 (some 55) rfl rfl (by kernel_rfl) (by kernel_rfl) (by kernel_rfl) (by decide) (fun _ _ _ h => h) rfl (Held.y_move rfl rfl) (fun _ => T0) ?_
      simp only [Act.put, Z1, Z2, Z3]
      refine Held.takeA (v := .slice (some ⟨g0, 0, none⟩) n3 c3) 2 (some 56) rfl rfl (by kernel_rfl) (by kernel_rfl) (by kernel_rfl) (by decide) (fun _ _ _ h => h) rfl (Held.y_move rfl rfl) (fun _ => T0) ?_
      simp only [Act.put, Z1, Z2, Z3]
      refine Held.takeA (v := .int .i64 (n3 : Int)) 3 (some 57) rfl rfl (by kernel_rfl) (by kernel_rfl) (by kernel_rfl) (by decide) (fun _ _ _ h => h) rfl (Held.y_len rfl rfl Tryd.underlying29) (fun _ => T0) ?_
      simp only [Act.put, Z1, Z2, Z3]
      refine Held.takeA (v := .int .i64 (j : Int)) 4 (some 58) rfl rfl (by kernel_rfl) (by kernel_rfl) (by kernel_rfl) (by decide) (fun _ _ _ h => h) rfl (Bi.y_rem (i : Int) (n3 : Int) rfl rfl rfl (Held.run_rem 3 .i64 (by omega) HJ.out)) (fun _ => T0) ?_
      simp only [Act.put, Z1, Z2, Z3]
      refine Held.takeA (v := .slice (some ⟨g0, 0, none⟩) n3 c3) 5 (some 59) rfl rfl (by kernel_rfl) (by kernel_rfl) (by kernel_rfl) (by decide) (fun _ _ _ h => h) rfl (Held.y_move rfl rfl) (fun _ => T0) ?_
      simp only [Act.put, Z1, Z2, Z3]
      refine Held.takeA (v := .int .i64 (k : Int)) 6 (some 60) rfl rfl (by kernel_rfl) (by kernel_rfl) (by kernel_rfl) (by decide) (fun _ _ _ h => h) rfl (Held.y_move rfl rfl) (fun _ => T0) ?_
      simp only [Act.put, Z1, Z2, Z3]
      refine Held.takeA (v := .slice (some ⟨g0, 0, none⟩) n3 c3) 7 (some 61) rfl rfl (by kernel_rfl) (by kernel_rfl) (by kernel_rfl) (by decide) (fun _ _ _ h => h) rfl (Held.y_move rfl rfl) (fun _ => T0) ?_
      simp only [Act.put, Z1, Z2, Z3]
      refine Held.takeA (v := .int .i64 (k : Int)) 8 (some 62) rfl rfl (by kernel_rfl) (by kernel_rfl) (by kernel_rfl) (by decide) (fun _ _ _ h => h) rfl (Held.y_move rfl rfl) (fun _ => T0) ?_
      simp only [Act.put, Z1, Z2, Z3]
      refine Held.takeA (v := .pointer (some ⟨g0, 0 + k * 2, none⟩)) 9 (some 63) rfl rfl (by kernel_rfl) (by kernel_rfl) (by kernel_rfl) (by decide) (fun _ _ _ h => h) rfl (Held.y_addr rfl rfl rfl (Rs.run_addr_of 29 39 g0 0 n3 c3 k 2 .i64 Tryd.underlying29 (by kernel_rfl) hk)) (fun _ => T0) ?_
      simp only [Act.put, Z1, Z2, Z3]
      refine Held.takeB (v := .agg #[.int .i64 (qs.getD k (0, 0)).1, .int .i64 (qs.getD k (0, 0)).2]) 10 (some 64) [19] rfl rfl (by kernel_rfl) (by kernel_rfl) (by kernel_rfl) (by kernel_rfl) (fun _ _ _ h => h) rfl (Rs.y_load_range (n := 2) (cs := [.int .i64 (qs.getD k (0, 0)).1, .int .i64 (qs.getD k (0, 0)).2]) rfl rfl Tryd.underlying39 rfl (by kernel_rfl) rfl (fun X hX => own_range hX hqw (by rw [hql]; exact hk))) T0 ?_
      simp only [Act.put, Z1, Z2, Z3]
      refine Held.takeA (v := .slice (some ⟨g0, 0, none⟩) n3 c3) 11 (some 65) rfl rfl (by kernel_rfl) (by kernel_rfl) (by kernel_rfl) (by decide) (fun _ _ _ h => h) rfl (Held.y_move rfl rfl) (fun _ => T0) ?_
      simp only [Act.put, Z1, Z2, Z3]
      refine Held.takeA (v := .int .i64 (i : Int)) 12 (some 66) rfl rfl (by kernel_rfl) (by kernel_rfl) (by kernel_rfl) (by decide) (fun _ _ _ h => h) rfl (Held.y_move rfl rfl) (fun _ => T0) ?_
      simp only [Act.put, Z1, Z2, Z3]
      refine Held.takeA (v := .slice (some ⟨g0, 0, none⟩) n3 c3) 13 (some 67) rfl rfl (by kernel_rfl) (by kernel_rfl) (by kernel_rfl) (by decide) (fun _ _ _ h => h) rfl (Held.y_move rfl rfl) (fun _ => T0) ?_
      simp only [Act.put, Z1, Z2, Z3]
      refine Held.takeA (v := .int .i64 (n3 : Int)) 14 (some 68) rfl rfl (by kernel_rfl) (by kernel_rfl) (by kernel_rfl) (by decide) (fun _ _ _ h => h) rfl (Held.y_len rfl rfl Tryd.underlying29) (fun _ => T0) ?_
      simp only [Act.put, Z1, Z2, Z3]
      refine Held.takeA (v := .int .i64 (j : Int)) 15 (some 69) rfl rfl (by kernel_rfl) (by kernel_rfl) (by kernel_rfl) (by decide) (fun _ _ _ h => h) rfl (Bi.y_rem (i : Int) (n3 : Int) rfl rfl rfl (Held.run_rem 3 .i64 (by omega) HJ.out)) (fun _ => T0) ?_
      simp only [Act.put, Z1, Z2, Z3]
      refine Held.takeA (v := .pointer (some ⟨g0, 0 + j * 2, none⟩)) 16 (some 70) rfl rfl (by kernel_rfl) (by kernel_rfl) (by kernel_rfl) (by decide) (fun _ _ _ h => h) rfl (Held.y_addr rfl rfl rfl (Rs.run_addr_of 29 39 g0 0 n3 c3 j 2 .i64 Tryd.underlying29 (by kernel_rfl) hjn)) (fun _ => T0) ?_
      simp only [Act.put, Z1, Z2, Z3]
      refine Held.takeB (v := .agg #[.int .i64 (qs.getD j (0, 0)).1, .int .i64 (qs.getD j (0, 0)).2]) 17 (some 71) [19] rfl rfl (by kernel_rfl) (by kernel_rfl) (by kernel_rfl) (by kernel_rfl) (fun _ _ _ h => h) rfl (Rs.y_load_range (n := 2) (cs := [.int .i64 (qs.getD j (0, 0)).1, .int .i64 (qs.getD j (0, 0)).2]) rfl rfl Tryd.underlying39 rfl (by kernel_rfl) rfl (fun X hX => own_range hX hqw (by rw [hql]; exact hjn))) T0 ?_
      simp only [Act.put, Z1, Z2, Z3]
      refine Held.takeA (v := .pointer (some ⟨g0, 0 + j * 2, none⟩)) 18 (some 72) rfl rfl (by kernel_rfl) (by kernel_rfl) (by kernel_rfl) (by decide) (fun _ _ _ h => h) rfl (Held.y_addr rfl rfl rfl (Rs.run_addr_of 29 39 g0 0 n3 c3 j 2 .i64 Tryd.underlying29 (by kernel_rfl) hjn)) (fun _ => T0) ?_
      simp only [Act.put, Z1, Z2, Z3]
      refine Held.oneB 19 (by kernel_rfl) ?_
      refine Sl.op_store_ownL (k := kP) 19 none 39 w2.heap.size g0 n3 c3 _ j qs (qs.getD k (0, 0)) rfl rfl rfl rfl (by show 0 + j * 2 = j * 2; omega) rfl rfl T0 (by rw [hql]; exact hjn) (by kernel_rfl) ?_
      intro w5 o5 g5
      have c5 : Below w2.heap.size w2 w5 := (cq.trans (D0.mono cq.size)).grown g5 (by have := cq.size; have := D0.size; omega) (fun r e => by cases e; omega)
      refine ⟨(fun h => by cases h.symm.trans (show _ = true by kernel_rfl)), ?_⟩
      simp only [Act.put]
      refine Held.takeA (v := .pointer (some ⟨g0, 0 + k * 2, none⟩)) 20 (some 73) rfl rfl (by kernel_rfl) (by kernel_rfl) (by kernel_rfl) (by decide) (fun _ _ _ h => h) rfl (Held.y_addr rfl rfl rfl (Rs.run_addr_of 29 39 g0 0 n3 c3 k 2 .i64 Tryd.underlying29 (by kernel_rfl) hk)) (fun h => by cases h.symm.trans (show _ = true by kernel_rfl)) ?_
      simp only [Act.put, Z1, Z2, Z3]
      refine Held.oneB 21 (by kernel_rfl) ?_
      refine Sl.op_store_ownL (k := kP) 21 none 39 w2.heap.size g0 n3 c3 _ k _ (qs.getD j (0, 0)) rfl rfl rfl rfl (by show 0 + k * 2 = k * 2; omega) rfl rfl o5 (by rw [List.length_set, hql]; exact hk) (by kernel_rfl) ?_
      intro w6 o6 g6
      have c6 : Below w2.heap.size w2 w6 := c5.grown g6 c5.size (fun r e => by cases e; omega)
      refine ⟨(fun h => by cases h.symm.trans (show _ = true by kernel_rfl)), ?_⟩
      simp only [Act.put]
      refine doneB (by kernel_rfl) ?_ _
      have hsp := (swap_perm (0, 0) qs j k (by rw [hql]; exact hjn) (by rw [hql]; exact hk)).trans hqp
      go_wp2_with fail
      go_roundw
      case rel => exact ⟨i + 1, _, by omega, by go_num, hsp, o6, c6⟩
      case measure => simp [intOf]; omega
    · have HD : (decide ((i : Int) < (nt : Int)) = true ∧ decide ((i : Int) < 20) = false) ∨ decide ((i : Int) < (nt : Int)) = false := by
        by_cases h1 : i < nt
        · exact .inl ⟨by simp; omega, by simp; omega⟩
        · exact .inr (by simp; omega)
      have q1 := q1.after cq
      have b4 := b2.trans (cq.mono b2.size)
      have hp3 := hp2.below (cq.mono (by omega))
      have lq := OwnL.lst oq hqw
      have HTD := Lib.hid (fun X hX Y hY => told_unique (told_perm hqp.symm hpw hX) hY : ∀ X, IsTold (foldV ((1 : Nat) : Int) (sumM 1) [OA] []) (Sp.live ((1 : Nat) : Int) (sumM 1) [OA] [] ps) X → ∀ Y, IsTold (foldV ((1 : Nat) : Int) (sumM 1) [OA] []) (Sp.live ((1 : Nat) : Int) (sumM 1) [OA] [] qs) Y → X = Y)
      have hR := order_right hn1 hn7 hb1 hb3
      have hTr := hT.below b4 hTw
      have hlr : w.heap.size < wr.heap.size := q1.lt
      clear oq cq hp2 hp ht ht2 hqp hql hqw hlt hi hcm hnt
      rcases HD with ⟨HD1, HD2⟩ | HD1
      all_goals
        have HD1 := Lib.hid HD1
        go_wp2_with (first
          | (refine on 37 ?_; refine wpList_run (w := wr) rfl (Held.y_lss (S := fun _ => True) rfl rfl rfl HD1.out _ trivial) ?_)
          | (refine on 40 ?_; refine wpList_run (w := wr) rfl (v := .bool false) (Held.y_lss (S := fun _ => True) rfl rfl rfl HD2 _ trivial) ?_))
        refine wp_region_held (S := fun W => Below wr.heap.size wr W) (by kernel_rfl) ?_
        change wpAnyH _ _ _ _ _ _ _ _ wr.drew
        have c0 := (Below.refl wr.heap.size wr).drew
        refine Held.tk (v := .agg #[.int .i64 (n3 : Int), .int .i64 1, .int .i64 (b : Int), .int .i64 1]) 1 (some 76) rfl (Held.y_load_blk (n := 4) rfl rfl Tryd.underlying28 rfl size_params rfl (fun W hW => q1.after hW)) c0 ?_
        simp only [Act.put, Z1, Z2, Z3]
        refine Held.tk (v := .slice A n3 c) 2 (some 77) rfl (Held.y_move rfl rfl) c0 ?_
        simp only [Act.put, Z1, Z2, Z3]
        refine Held.one 0 (by kernel_rfl) ?_
        refine Held.op_call 0 (some 75) 17 #[.int .i64 1] rfl rfl rfl rfl (enters_of Tryd.func17 (by kernel_rfl) rfl) (by simp [Act.eval])
          (sums_one _) ?_
        rintro e v2 ⟨SA, sn, sc, sg, rfl, k1, k2, f1⟩
        have c1 := c0.trans (f1.mono c0.size)
        refine ⟨_, rfl, c1, ?_⟩
        simp only [Act.put, Z1, Z2, Z3]
        refine Held.one 3 (by kernel_rfl) ?_
        refine Held.op_call 3 (some 78) 9 #[.agg #[.int .i64 1, .slice SA sn sc, .slice (some ⟨sg, 0, none⟩) 1 1, .slice none 0 0], .agg #[.int .i64 (n3 : Int), .int .i64 1, .int .i64 (b : Int), .int .i64 1], .slice A n3 c] rfl rfl rfl rfl (enters_of Tryd.func9 (by kernel_rfl) rfl) (by simp [Act.eval])
          (run_sum v2.heap.size b n3 SA (some ⟨sg, 0, none⟩) _ sn sc 1 1 _ _ v2 k1 k2 ((hp3.below (c1.mono (Nat.le_of_lt hlr))).more (Nat.le_trans (Nat.le_of_lt hlr) c1.size)) (Nat.le_refl _) hR (hTr.below c1 hTr.lt)) ?_
        rintro e v3 ⟨v1, X1, rfl, o1, p1, t1, x1l, f2⟩
        have c2 := c1.trans (f2.mono c1.size)
        refine ⟨_, rfl, c2, ?_⟩
        simp only [Act.put, Z1, Z2, Z3]
        refine Held.tk (v := .tuple #[v1, .int .i64 0]) 4 (some 74) rfl (Held.y_move rfl rfl) c2 ?_
        simp only [Act.put, Z1, Z2, Z3]
        refine Held.tk (v := v1) 5 (some 79) rfl (Held.y_extract rfl rfl rfl) c2 ?_
        simp only [Act.put, Z1, Z2, Z3]
        refine Held.tk (v := .int .i64 0) 6 (some 80) rfl (Held.y_extract rfl rfl rfl) c2 ?_
        simp only [Act.put, Z1, Z2, Z3]
        refine Held.tk (v := v1) 7 (some 11) rfl (Held.y_assign rfl rfl) c2 ?_
        simp only [Act.put, Z1, Z2, Z3]
        refine Held.tk (v := .int .i64 0) 8 (some 12) rfl (Held.y_assign rfl rfl) c2 ?_
        simp only [Act.put, Z1, Z2, Z3]
        refine wpAnyH_done (by kernel_rfl) ?_ _
        have q1 := q1.after c2
        have lq := (lq.below c2).more c2.size
        have b5 := b4.trans (c2.mono b4.size)
        have hTr := hT.below b5 hTw
        clear k1 k2 f1 f2 c0 c1 c2
        go_wp2_with fail
        refine wp_region_held (S := fun W => Below v3.heap.size v3 W) (by kernel_rfl) ?_
        change wpAnyH _ _ _ _ _ _ _ _ v3.drew
        have c0 := (Below.refl v3.heap.size v3).drew
        refine Held.tk (v := .agg #[.int .i64 (n3 : Int), .int .i64 1, .int .i64 (b : Int), .int .i64 1]) 1 (some 83) rfl (Held.y_load_blk (n := 4) rfl rfl Tryd.underlying28 rfl size_params rfl (fun W hW => q1.after hW)) c0 ?_
        simp only [Act.put, Z1, Z2, Z3]
        refine Held.tk (v := .slice (some ⟨g0, 0, none⟩) n3 c3) 2 (some 84) rfl (Held.y_move rfl rfl) c0 ?_
        simp only [Act.put, Z1, Z2, Z3]
        refine Held.one 0 (by kernel_rfl) ?_
        refine Held.op_call 0 (some 82) 17 #[.int .i64 1] rfl rfl rfl rfl (enters_of Tryd.func17 (by kernel_rfl) rfl) (by simp [Act.eval])
          (sums_one _) ?_
        rintro e v4 ⟨SA, sn, sc, sg, rfl, k1, k2, f1⟩
        have c1 := c0.trans (f1.mono c0.size)
        refine ⟨_, rfl, c1, ?_⟩
        simp only [Act.put, Z1, Z2, Z3]
        refine Held.one 3 (by kernel_rfl) ?_
        refine Held.op_call 3 (some 85) 9 #[.agg #[.int .i64 1, .slice SA sn sc, .slice (some ⟨sg, 0, none⟩) 1 1, .slice none 0 0], .agg #[.int .i64 (n3 : Int), .int .i64 1, .int .i64 (b : Int), .int .i64 1], .slice (some ⟨g0, 0, none⟩) n3 c3] rfl rfl rfl rfl (enters_of Tryd.func9 (by kernel_rfl) rfl) (by simp [Act.eval])
          (run_sum v4.heap.size b n3 SA (some ⟨sg, 0, none⟩) _ sn sc 1 1 _ _ v4 k1 k2 ((lq.below (c1.mono (Nat.le_refl _))).more (Nat.le_trans (Nat.le_refl _) c1.size)) (Nat.le_refl _) hR (hTr.below c1 hTr.lt)) ?_
        rintro e v5 ⟨v2, X2, rfl, o2, p2, t2, x2l, f2⟩
        have c2 := c1.trans (f2.mono c1.size)
        refine ⟨_, rfl, c2, ?_⟩
        simp only [Act.put, Z1, Z2, Z3]
        refine Held.tk (v := .tuple #[v2, .int .i64 0]) 4 (some 81) rfl (Held.y_move rfl rfl) c2 ?_
        simp only [Act.put, Z1, Z2, Z3]
        refine Held.tk (v := v2) 5 (some 86) rfl (Held.y_extract rfl rfl rfl) c2 ?_
        simp only [Act.put, Z1, Z2, Z3]
        refine Held.tk (v := .int .i64 0) 6 (some 87) rfl (Held.y_extract rfl rfl rfl) c2 ?_
        simp only [Act.put, Z1, Z2, Z3]
        refine Held.tk (v := v2) 7 (some 13) rfl (Held.y_assign rfl rfl) c2 ?_
        simp only [Act.put, Z1, Z2, Z3]
        refine Held.tk (v := .int .i64 0) 8 (some 14) rfl (Held.y_assign rfl rfl) c2 ?_
        simp only [Act.put, Z1, Z2, Z3]
        refine wpAnyH_done (by kernel_rfl) ?_ _
        obtain rfl := HTD.out _ t1 _ t2
        have o1 := OwnL.below o1 c2
        have b6 := b5.trans (c2.mono b5.size)
        clear q1 lq k1 k2 f1 f2 c0 c1 c2 HTD t1 t2 p2
        obtain ⟨A8, n8, c8, rfl, hn8, _⟩ := OwnL.form2 o1
        obtain ⟨A9, n9, c9, rfl, hn9, _⟩ := OwnL.form2 o2
        have k1 := OwnL.lst o1 p1
        have k2 := OwnL.lst o2 p1
        have hl8 : n8 ≤ 1073741824 := by rw [← hn8.out]; omega
        have hl9 : n9 ≤ 1073741824 := by rw [← hn9.out]; omega
        clear o1 o2
        go_wp2_with fail
        refine (awake16_any v5).mono ?_
        rintro e v6 ⟨rfl, bu⟩
        have k1 := (k1.below bu).more bu.size
        have k2 := (k2.below bu).more bu.size
        have b7 := b6.trans (bu.mono b6.size)
        go_wp2_with fail
        refine (Pip.plain_any v6.heap.size v6.heap.size A8 A9 n8 n9 c8 c9 X1 X1 v6 k1 k2 (Nat.le_refl _) (Nat.le_refl _) hl8 hl9).mono ?_
        rintro e v7 ⟨rfl, bv⟩
        have b8 := b7.trans (bv.mono b7.size)
        rw [show decide (X1 = X1) = true by simp]
        go_wp2_with fail
        go_ret
        exact ⟨rfl, b8⟩
theorem walk (A0 : Option Addr) (m0 c0 : Nat) (ps0 : List (Int × Int)) (a1 : Option Addr) (len1 cap1 : Nat) (z1 : List Int) (a2 : Int) (w : World) (hp0 : Sl.Lst Sp.kP w w.heap.size A0 m0 ps0 ∧ m0 ≤ c0 ∧ c0 ≤ maxLen) (w1 : IsRow .i64 w a1 len1 cap1 z1) (w2 : (Lit.int .i64 a2).wf = true) (hL : laidMetH Tryd.prog laidList w) :
    Calls Tryd.prog 5 #[.slice A0 m0 c0, .slice a1 len1 cap1, .int .i64 a2] w fun e w' => e = .returned (.bool true) ∧ Below w.heap.size w w' := by
  exact start A0 m0 c0 ps0 a1 len1 cap1 _ a2 w hp0.1 hp0.2.2 (ints_of_row w1).1 (by have := (ints_of_row w1).2; unfold maxLen at this; omega) (Bi.bits_of_laid hL)
set_option maxRecDepth 100000 in
theorem door_met (os : Os) (args : Array Value) : laidMetH Tryd.prog laidList ((World.doorLaid Tryd.prog 400 os).forCall (fun _ _ => 0) ⟨#[], args, []⟩).memory :=
  laidMetH_of_parts3 (fuel := 8) (laidMet_of_run' 8 (by kernel_rfl) (by kernel_rfl)) (by kernel_rfl) (by kernel_rfl)
set_option maxRecDepth 100000 in
theorem lifted (os : Os) (started : os.Started) (H : Type) (enc : TypeId × Value → H) :
    ReturnsInHanded {} Tryd.checked os 5 .any (fun w args => (Rows.pipeOrderSpec.pre enc Tryd.prog Tryd.f5 [] false w args ∧ laidMetH Tryd.prog laidList w) ∧ sizedMet enc Tryd.prog Tryd.f5 (OpenSpec.ofChange Rows.pipeOrderSpec) false w args)
      (Rows.pipeOrderSpec.post enc Tryd.prog Tryd.f5 false true false false) := by
  refine returnsInHanded_of_change_and (C := Tryd.checked) (X := fun w _ => laidMetH Tryd.prog laidList w) (fun _ _ _ hh h => h.of_heap hh) own started (by kernel_rfl) Tryd.func5
    (ChangeSpec.witness_shaped (enc := enc) (C := Tryd.checked) (os := os) (X := fun w _ => laidMetH Tryd.prog laidList w) false (World.doorLaid Tryd.prog 400 os) #[.slice none 0 0, .slice none 0 0, .int .i64 0] 8 rfl (World.shaped_of_RefB (by kernel_rfl) (by kernel_rfl)) (by kernel_rfl) (by kernel_rfl) (by kernel_rfl) (door_met os _)) ?_
  intro W base args ds gs before hval0 hW _ _ hL _
  have hval : ∀ (j : Nat) t v, Tryd.f5.params[j]? = some t → args[j]? = some v → Value.okWide Tryd.prog W .any base t v := hval0
  have hW' := hW
  obtain ⟨p, q, hA0, hV, rfl, hfz, hnd⟩ := hW
  have hA : DataW.TrodAll enc Tryd.prog W 0 (fun _ => true) true Tryd.f5.params.toList args.toList ds p := hA0
  rw [Tryd.params5] at hA hval
  obtain ⟨v0, vs0, d0, ds0, p0, q0, hargs, rfl, rfl, h0, r0⟩ := trodAll_cons hA
  obtain ⟨v1, vs1, d1, ds1, p1, q1, rfl, rfl, rfl, h1, r1⟩ := trodAll_cons r0
  obtain ⟨v2, vs2, d2, ds2, p2, q2, rfl, rfl, rfl, h2, r2⟩ := trodAll_cons r1
  obtain ⟨rfl, rfl, rfl⟩ := trodAll_nil r2
  obtain rfl : args = #[v0, v1, v2] := by cases args; simp_all
  obtain ⟨rfl, rfl⟩ := trodVars_none hV
  obtain ⟨A0, m0, c0, rfl⟩ := okWide_slice Tryd.underlying29 (hval 0 29 v0 rfl rfl)
  have kk0 := h0
  have lt0 : ∀ x ∈ p0, x.block < W.heap.size := by obtain ⟨m, hm⟩ := kk0; exact DataW.trod_lt m _ _ _ hm
  obtain ⟨ps0, hp0⟩ := Vm.open_lstT (k := Sp.kP) Tryd.underlying29 (by kernel_rfl) Sp.open_pair1 h0
  obtain ⟨a1, len1, cap1, rfl⟩ := okWide_slice Tryd.underlying53 (hval 1 53 v1 rfl rfl)
  have k1 := h1
  have lt1 : ∀ x ∈ p1, x.block < W.heap.size := by obtain ⟨m, hm⟩ := k1; exact DataW.trod_lt m _ _ _ hm
  obtain ⟨z1, w1⟩ : ∃ zs, IsRow .i64 W a1 len1 cap1 zs := by
    obtain ⟨fuel, hf⟩ := h1
    rcases open_ints Tryd.underlying53 Tryd.underlying3 (by kernel_rfl) hf with ⟨hcs, _⟩ | ⟨x, l, c, zs, hcs, _, hl, hm, hz, _, hcell, hwz⟩
    · simp [Value.cells] at hcs
      obtain ⟨rfl, rfl, rfl⟩ := hcs
      exact ⟨[], .inl ⟨rfl, rfl, rfl, rfl⟩⟩
    · simp [Value.cells] at hcs
      obtain ⟨rfl, rfl, rfl⟩ := hcs
      exact ⟨zs, .inr ⟨_, rfl, hl, hm, by simpa using hz, hcell, hwz⟩⟩
  obtain ⟨a2, rfl, rfl, rfl, w2⟩ := open_int Tryd.underlying3 (hval 2 3 v2 rfl rfl) h2
  clear hA0 hval0
  refine (walk A0 m0 c0 ps0 a1 len1 cap1 z1 a2 W hp0 w1 w2 hL).mono fun e W' ⟨he, bel⟩ => ?_
  subst he
  exact ⟨_, rfl, _, _, _, [], _, [], hW', trodAll_mk1 (shut_bool Tryd.underlying4 _), (trodAll_cons_mk (Below.trod laidOut (by kernel_rfl) (of_decide_eq_true (by kernel_rfl)) kk0 bel lt0) (trodAll_cons_mk (Below.trod laidOut (by kernel_rfl) (of_decide_eq_true (by kernel_rfl)) k1 bel lt1) (trodAll_cons_mk (shut_int Tryd.underlying3 w2) trodAll_mk0))), rfl, bel.frame _, fun h => by cases h⟩
theorem over : Rows.pipeOrderRow.holds Tryd.pinned (OpenSpec.ofChange Rows.pipeOrderSpec) :=
  OpenClaim.holds_of_wide 5 Tryd.f5 rfl rfl rfl rfl rfl rfl rfl ⟨rfl, rfl, rfl, rfl, rfl⟩ rfl rfl rfl rfl rfl (by kernel_rfl) Tryd.func5 (by kernel_rfl)
    (of_decide_eq_true (by kernel_rfl)) (by unfold Func.isWrapper; first | (rw [if_pos (by decide +kernel)]; kernel_rfl) | (rw [if_neg (by decide +kernel)]; exact ⟨rfl, rfl⟩))
    (fun os started H enc _ => lifted os started H enc)
theorem proved : Rows.PipeOrderCardSaid :=
  Claim7.holds_tied_plain_at .later [] [.data, .data] true (true, "a149d18c0653b1648f16848b2da2c696ebc66272bb5a5a3ee711bd8e17f0b6c7") false
    over (fun _ h => by cases h) (by kernel_rfl) (fun _ h => by cases h) pipeOrder_row_tie rfl ⟨rfl, rfl⟩ (by kernel_rfl) rfl
    (fun f fn hf hfn => by
      obtain rfl : f = 5 := Option.some.inj ((show Tryd.prog.funcNamed "domino/dominolaw16.PipeOrder" = some 5 by kernel_rfl).symm.trans hf) |>.symm
      obtain rfl : fn = Tryd.f5 := (Option.some.inj (Tryd.func5.symm.trans hfn)).symm
      exact ⟨by kernel_rfl, fun j t ht => by
        rw [Tryd.params5] at ht
        have hm : t ∈ [29, 53, 3] := by simpa using Array.mem_of_getElem? ht
        have hall : ([29, 53, 3].all fun u => !Tryd.prog.wantsStandIn u) = true := by kernel_rfl
        exact (show Tryd.prog.wantsStandIn t = false by simpa using List.all_eq_true.1 hall t hm)⟩)
    (by kernel_rfl)
#print axioms proved
end Go.Proofs.YtlinmcgmkpkpaaaDoor.pipeOrder
