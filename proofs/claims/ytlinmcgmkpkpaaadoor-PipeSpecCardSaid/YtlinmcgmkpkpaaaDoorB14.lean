/-
  Package pipe's Blocks, last and refusal, and the laws' first line, by their contracts, where nothing is refused.
  The document's own check of programs, by its contract, of any program.
-/
import Derived.Test.YtlinmcgmkpkpaaaDoorB13
import Derived.Test.YtlinmcgmkpkpaaaDoorB8
set_option linter.unusedVariables false
namespace Go.Proofs.YtlinmcgmkpkpaaaDoor.Pi
open Go.RowKit Go.Shelf Mem Held Go.Proofs.YtlinmcgmkpkpaaaDoor.Range Ct Rc Rs Sl Vm Sp Mg
attribute [local go_sem] Oper.semAt_some
attribute [local irreducible] wpList wpListIn Calls
def inI (r b : Int) : Int := (r + b - 1) / b
def allI (r k b : Int) : Int := Bi.padV (k * inI r b + 1)
theorem right_says {r k b wk : Int} (h : rightB r k b wk = true) : (1 ≤ r ∧ r ≤ 64) ∧ (1 ≤ k ∧ k ≤ 4) ∧ (1 ≤ b ∧ b ≤ 8) ∧ (1 ≤ inI r b ∧ inI r b ≤ 64) ∧ (1 ≤ k * inI r b ∧ k * inI r b < 32) := by
  rw [rightB_of] at h
  simp only [Bool.and_eq_true, decide_eq_true_eq] at h
  obtain ⟨⟨⟨⟨h1, h2⟩, h3⟩, h4⟩, h5⟩ := h
  have h1 := inB_says h1
  have h2 := inB_says h2
  have h3 := inB_says h3
  have e1 : 1 ≤ inI r b := by
    unfold inI
    rw [Int.le_ediv_iff_mul_le (by omega)]
    omega
  have e2 : inI r b ≤ 64 := by
    have : inI r b < 65 := by
      unfold inI
      rw [Int.ediv_lt_iff_lt_mul (by omega)]
      omega
    omega
  refine ⟨h1, h2, h3, ⟨e1, e2⟩, ?_, h5⟩
  have := Int.mul_le_mul h2.1 e1 (by omega) (by omega)
  omega
theorem all_says {r k b wk : Int} (h : rightB r k b wk = true) : ∃ S : Nat, 1 ≤ S ∧ S ≤ 5 ∧ allI r k b = ((2 ^ S : Nat) : Int) ∧ Bi.stg (allI r k b) = S ∧ k * inI r b < ((2 ^ S : Nat) : Int) := by
  obtain ⟨_, _, _, _, h5⟩ := right_says h
  unfold allI
  generalize k * inI r b = q at *
  obtain ⟨p, rfl⟩ : ∃ p : Nat, q = (p : Int) := ⟨q.toNat, by omega⟩
  have hp : p < 32 := by omega
  have hp1 : 1 ≤ p := by omega
  have : ∀ p : Fin 32, 1 ≤ p.val → 1 ≤ Bi.padS ((p.val : Int) + 1) ∧ Bi.padS ((p.val : Int) + 1) ≤ 5 ∧ (p.val : Int) < 2 ^ Bi.padS ((p.val : Int) + 1) := by decide +kernel
  obtain ⟨k1, k2, k3⟩ := this ⟨p, hp⟩ hp1
  refine ⟨Bi.padS ((p : Int) + 1), k1, k2, ?_, ?_, ?_⟩
  · unfold Bi.padV; exact Bi.two_nat _
  · unfold Bi.padV; exact Bi.stg_pow (by have : Bi.padS ((p : Int) + 1) ≤ 5 := k2; omega)
  · rw [← Bi.two_nat]; exact k3
set_option maxRecDepth 100000 in
set_option maxHeartbeats 4000000 in
theorem blocks_ok (r k b wk : Int) (w : World) (hR : rightB r k b wk = true) :
    Calls Tryd.prog 13 #[.agg #[.int .i64 r, .int .i64 k, .int .i64 b, .int .i64 wk]] w fun e w' => e = .returned (.tuple #[.int .i64 (inI r b), .int .i64 (allI r k b)]) ∧ Below w.heap.size w w' := by
  obtain ⟨⟨hr1, hr⟩, ⟨hk1, hk⟩, ⟨hb1, hb⟩, ⟨hi1, hi⟩, hq1, hq⟩ := right_says hR
  have HR := Lib.hid (show rightE r k b wk = 0 by rw [rightE, if_pos hR])
  have e1 : IntKind.i64.wrap (r + b) = r + b := by rw [IntKind.wrap_i64]; omega
  have e2 : IntKind.i64.wrap (r + b - 1) = r + b - 1 := by rw [IntKind.wrap_i64]; omega
  have hb0 : ¬ b = 0 := by omega
  have hb0' : b ≠ 0 := by omega
  have e3 : Int.tdiv (r + b - 1) b = inI r b := Int.tdiv_eq_ediv_of_nonneg (by omega)
  have e4 : IntKind.i64.wrap (inI r b) = inI r b := by rw [IntKind.wrap_i64]; omega
  have e5 : IntKind.i64.wrap (k * inI r b) = k * inI r b := by rw [IntKind.wrap_i64]; omega
  have e6 : IntKind.i64.wrap (k * inI r b + 1) = k * inI r b + 1 := by rw [IntKind.wrap_i64]; omega
  have HP := fun W => Bi.padded_any (k * inI r b + 1) W (by omega) (by omega)
  rw [show allI r k b = Bi.padV (k * inI r b + 1) from rfl]
  generalize Bi.padV (k * inI r b + 1) = M at *
  generalize inI r b = q at *
  clear hR hq1 hq hi1 hi
  go_enter Tryd.func13, Tryd.ntmps13
  go_wp2_with (first
    | (refine wpList_box_blk (w := w) rfl 28 _ rfl #[.int .i64 r, .int .i64 k, .int .i64 b, .int .i64 wk] rfl ?_; intro w1 q1 g1 z1; have b1 : Below w.heap.size w w1 := (Below.refl _ w).grown g1 (Nat.le_refl _) (by simp); clear g1 z1)
    | (refine wpList_load_blk (w := w1) rfl 28 _ rfl w.heap.size 4 rfl 28 _ q1 _ Tryd.underlying28 rfl size_params rfl ?_))
  refine (right_any r k b wk w1).mono ?_
  rintro e w2 ⟨rfl, b2⟩
  rw [HR.out]
  have q1 := q1.after b2
  have b2 := b1.trans (b2.mono b1.size)
  have hc0 := q1.cell (i := 0) rfl
  have hc1 := q1.cell (i := 1) rfl
  have hc2 := q1.cell (i := 2) rfl
  clear b1 q1
  go_wp2_with (first
    | (refine wpList_run (w := w2) rfl (v := .pointer (some ⟨w.heap.size, 0, none⟩)) (Held.y_field (S := fun _ => True) (k := 0) (s := 0) rfl rfl Tryd.underlying28 rfl (by kernel_rfl) rfl _ trivial) ?_)
    | (refine wpList_run (w := w2) rfl (v := .pointer (some ⟨w.heap.size, 1, none⟩)) (Held.y_field (S := fun _ => True) (k := 1) (s := 0) rfl rfl Tryd.underlying28 rfl (by kernel_rfl) rfl _ trivial) ?_)
    | (refine wpList_run (w := w2) rfl (v := .pointer (some ⟨w.heap.size, 2, none⟩)) (Held.y_field (S := fun _ => True) (k := 2) (s := 0) rfl rfl Tryd.underlying28 rfl (by kernel_rfl) rfl _ trivial) ?_))
  refine (HP w2).mono ?_
  rintro e w3 ⟨rfl, rfl⟩
  go_wp2_with fail
  go_ret2
  exact ⟨rfl, b2⟩
set_option maxRecDepth 100000 in
set_option maxHeartbeats 4000000 in
theorem last_ok (r k b wk : Int) (T : Nat) (w : World) (hR : rightB r k b wk = true) (hT : Bi.TzT w) (hK : Bi.tri (Bi.stg (allI r k b)) = T) :
    Calls Tryd.prog 20 #[.agg #[.int .i64 r, .int .i64 k, .int .i64 b, .int .i64 wk]] w fun e w' => e = .returned (.int .i64 ((2 + 2 * T : Nat) : Int)) ∧ Below w.heap.size w w' := by
  obtain ⟨S, hS1, hS5, hM, hS, _⟩ := all_says hR
  have hM32 : 2 ^ S ≤ 32 := Nat.pow_le_pow_right (n := 2) (i := S) (by omega) hS5
  have hM1 : 1 ≤ 2 ^ S := Nat.two_pow_pos _
  have hT136 : T ≤ 136 := by rw [← hK]; exact Bi.tri_le (Bi.stg_le _)
  have HB := fun W => blocks_ok r k b wk W hR
  have HN := fun W hT => Bi.rounds_any (allI r k b) W (by rw [hM]; omega) (by rw [hM]; omega) hT
  rw [hK] at HN
  generalize allI r k b = M at *
  generalize inI r b = q at *
  have e1 : IntKind.i64.wrap (2 * (T : Int)) = 2 * (T : Int) := by rw [IntKind.wrap_i64]; omega
  have e2 : IntKind.i64.wrap (2 + 2 * (T : Int)) = 2 + 2 * (T : Int) := by rw [IntKind.wrap_i64]; omega
  have e3 : ((2 + 2 * T : Nat) : Int) = 2 + 2 * (T : Int) := by omega
  rw [e3]
  have hTw := hT.lt
  clear hM hS hK hR e3
  go_enter Tryd.func20, Tryd.ntmps20
  go_wp2_with (first
    | (refine wpList_box_blk (w := w) rfl 28 _ rfl #[.int .i64 r, .int .i64 k, .int .i64 b, .int .i64 wk] rfl ?_; intro w1 q1 g1 z1; have b1 : Below w.heap.size w w1 := (Below.refl _ w).grown g1 (Nat.le_refl _) (by simp); clear g1 z1)
    | (refine wpList_load_blk (w := w1) rfl 28 _ rfl w.heap.size 4 rfl 28 _ q1 _ Tryd.underlying28 rfl size_params rfl ?_))
  refine (HB w1).mono ?_
  rintro e w2 ⟨rfl, b2⟩
  have b2 := b1.trans (b2.mono b1.size)
  have hT2 := hT.below b2 hTw
  clear b1 q1 hT
  go_wp2_with fail
  refine (HN w2 hT2).mono ?_
  rintro e w3 ⟨rfl, rfl⟩
  go_wp2_with fail
  go_ret
  exact ⟨rfl, b2⟩
set_option maxRecDepth 100000 in
set_option maxHeartbeats 4000000 in
theorem refusal_ok (B k : Nat) (bk wk : Int) (A1 A2 A3 A : Option Addr) (n1 c1 n2 c2 n3 c3 n c : Nat) (m f fi : List O) (w : World) (h1 : Lst kO w B A1 n1 m) (h2 : Lst kO w B A2 n2 f) (h3 : Lst kO w B A3 n3 fi) (hB : B ≤ w.heap.size) (hC : checkB (k : Int) m f fi = true) (hR : rightB (n : Int) (k : Int) bk wk = true) :
    Calls Tryd.prog 31 #[.agg #[.int .i64 (k : Int), .slice A1 n1 c1, .slice A2 n2 c2, .slice A3 n3 c3], .agg #[.int .i64 (n : Int), .int .i64 (k : Int), .int .i64 bk, .int .i64 wk], .slice A n c] w fun e w' => e = .returned (.int .i64 0) ∧ Below w.heap.size w w' := by
  have HR := Lib.hid (show rightE (n : Int) (k : Int) bk wk = 0 by rw [rightE, if_pos hR])
  have HC := Lib.hid (show checkE (k : Int) m f fi = 0 by rw [checkE, if_pos hC])
  clear hR hC
  go_enter Tryd.func31, Tryd.ntmps31
  go_wp2_with (first
    | (refine wpList_box_blk (w := w) rfl 26 _ rfl #[.int .i64 (k : Int), .slice A1 n1 c1, .slice A2 n2 c2, .slice A3 n3 c3] rfl ?_; intro u1 qa g1 z1)
    | (refine wpList_box_blk (w := u1) rfl 28 _ rfl #[.int .i64 (n : Int), .int .i64 (k : Int), .int .i64 bk, .int .i64 wk] rfl ?_; intro u2 qb g2 z2; have qa := qa.grown g2 (by simp); have b2 : Below w.heap.size w u2 := ((Below.refl _ w).grown g1 (Nat.le_refl _) (by simp)).grown g2 g1.size (by simp); have hab : w.heap.size ≤ u1.heap.size := g1.size; clear g1 z1 g2 z2)
    | (refine wpList_load_blk (w := u2) rfl 28 _ rfl u1.heap.size 4 rfl 28 _ qb _ Tryd.underlying28 rfl size_params rfl ?_))
  refine (right_any (n : Int) (k : Int) bk wk u2).mono ?_
  rintro e u3 ⟨rfl, b3⟩
  rw [HR.out]
  have qa := qa.after b3
  have qb := qb.after b3
  have b3 := b2.trans (b3.mono b2.size)
  clear b2
  go_wp2_with (refine wpList_load_blk (w := u3) rfl 26 _ rfl w.heap.size 4 rfl 26 _ qa _ Tryd.underlying26 rfl info_prog rfl ?_)
  refine (check_any B (k : Int) A1 A2 A3 n1 c1 n2 c2 n3 c3 m f fi u3 (h1.below (b3.mono hB)) (h2.below (b3.mono hB)) (h3.below (b3.mono hB)) (Nat.le_trans hB b3.size)).mono ?_
  rintro e u4 ⟨rfl, b4⟩
  rw [HC.out]
  have qa := qa.after b4
  have qb := qb.after b4
  have b4 := b3.trans (b4.mono b3.size)
  have ca := qa.cell (i := 0) rfl
  have cb := qb.cell (i := 1) rfl
  have cr := qb.cell (i := 0) rfl
  clear b3
  go_wp2_with (first
    | (refine wpList_run (w := u4) rfl (v := .pointer (some ⟨w.heap.size, 0, none⟩)) (Held.y_field (S := fun _ => True) (k := 0) (s := 0) rfl rfl Tryd.underlying26 rfl (by kernel_rfl) rfl _ trivial) ?_)
    | (refine wpList_run (w := u4) rfl (v := .pointer (some ⟨u1.heap.size, 1, none⟩)) (Held.y_field (S := fun _ => True) (k := 1) (s := 0) rfl rfl Tryd.underlying28 rfl (by kernel_rfl) rfl _ trivial) ?_)
    | (refine wpList_run (w := u4) rfl (v := .pointer (some ⟨u1.heap.size, 0, none⟩)) (Held.y_field (S := fun _ => True) (k := 0) (s := 0) rfl rfl Tryd.underlying28 rfl (by kernel_rfl) rfl _ trivial) ?_))
  go_ret
  exact ⟨rfl, b4⟩
set_option maxRecDepth 100000 in
set_option maxHeartbeats 4000000 in
theorem awake16_any (w : World) : Calls Tryd.prog 11 #[] w fun e w' => e = .returned (.bool true) ∧ Below w.heap.size w w' := by
  have H := fun W => blocks_ok 3 1 2 1 W (by decide)
  rw [show inI 3 2 = 2 by decide, show allI 3 1 2 = 4 by decide +kernel] at H
  go_enter Tryd.func11, Tryd.ntmps11
  go_wp2_with (refine wpList_build_blk rfl 28 _ rfl #[.int .i64 3, .int .i64 1, .int .i64 2, .int .i64 1] (by kernel_rfl) ?_)
  refine (H w).mono ?_
  rintro e w1 ⟨rfl, b1⟩
  go_wp2_with fail
  go_ret
  exact ⟨rfl, b1⟩
end Go.Proofs.YtlinmcgmkpkpaaaDoor.Pi
namespace Go.Proofs.YtlinmcgmkpkpaaaDoor.Cn
open Go.RowKit Go.Shelf Go.Proofs.YtlinmcgmkpkpaaaDoor Mem Held Rc Rs Sl Vm
attribute [local irreducible] wpList wpListIn Calls
set_option maxRecDepth 100000 in
set_option maxHeartbeats 32000000 in
theorem rpart_any (B : Nat) (A : Option Addr) (n c : Nat) (xs : List O) (k : Int) (w : World) (h : Lst kO w B A n xs) (hB : B ≤ w.heap.size) (hn : n ≤ 9223372036854775807) :
    Calls Tryd.prog 34 #[.slice A n c, .int .i64 k] w fun e w' => e = .returned (.bool (mayP xs k)) ∧ Below w.heap.size w w' := by
  have HL := Lib.hid h.1
  have HSET := Lib.hid (fun i (hi : i < n) (hb : mayO (xs.getD i O0) k = false) => bad_all (l := xs) (k := k) (by rw [h.1]; exact hi) hb)
  go_enter Tryd.func34, Tryd.ntmps34
  go_wp2_with fail
  go_loopw [5] (fun t wr => ∃ i : Nat, i ≤ n ∧ t = .int .i64 i ∧ Below w.heap.size w wr ∧ Hid (∀ j, j < i → mayO (xs.getD j O0) k = true)) (fun t _ => n - (intOf t).toNat)
  case atStart => exact ⟨0, by omega, rfl, Below.refl _ _, Lib.hid (fun j hj => absurd hj (by omega))⟩
  case round =>
    obtain ⟨i, hi, rfl, bw, HALL⟩ := hrel
    by_cases hlt : i < n
    · obtain ⟨b, off, rfl, hb1, hx⟩ := (h.below (bw.mono hB)).at_ hlt
      have hx : wr.rangeAt b (off + i * 6) (xs.getD i O0).cells := hx
      have HB := Lib.hid (HSET.out i hlt)
      have HG := Lib.hid (fun hg : mayO (xs.getD i O0) k = true => (Lib.hid (fun j (hj : j < i + 1) => if ej : j = i then (by rw [ej]; exact hg) else HALL.out j (by omega)) : Hid (∀ j, j < i + 1 → mayO (xs.getD j O0) k = true)))
      generalize xs.getD i O0 = x at hx HB HG
      obtain ⟨code, rd, ra, rb, rc, nn⟩ := x
      have hx : wr.rangeAt b (off + i * 6) [.int .i64 code, .int .i64 rd, .int .i64 ra, .int .i64 rb, .int .i64 rc, .int .i64 nn] := hx
      have hlt' : (i : Int) < (n : Int) := by omega
      have hi0 : (0 : Int) ≤ (i : Int) := by omega
      by_cases k1 : code < 1
      · have HBAD := Lib.hid (HB.out (by unfold mayO isReg; simp; omega))
        clear HB HG
        go_wp2_with (first
          | (refine wpList_run (w := wr) rfl (v := .pointer (some ⟨b, off + i * 6, none⟩)) (Held.y_addr (S := fun _ => True) rfl rfl rfl (run_addr_of (P := Tryd.prog) 24 58 b off n c i 6 .i64 Tryd.underlying24 size_op hlt) _ trivial) ?_)
          | (refine wpList_run (w := wr) rfl (v := .agg #[.int .i64 code, .int .i64 rd, .int .i64 ra, .int .i64 rb, .int .i64 rc, .int .i64 nn]) (y_load_range (S := fun W => W = wr) (n := 6) (cs := [.int .i64 code, .int .i64 rd, .int .i64 ra, .int .i64 rb, .int .i64 rc, .int .i64 nn]) rfl rfl Tryd.underlying58 rfl size_op rfl (fun W hW => by rw [hW]; exact hx) _ rfl) ?_)
          | (refine wpList_alloc_blk (w := wr) rfl 58 rfl _ zero_op ?_; intro v2 q2 g2 z2)
          | (refine wpList_store_blk (w := v2) rfl 58 _ _ rfl wr.heap.size 6 rfl 58 _ #[.int .i64 code, .int .i64 rd, .int .i64 ra, .int .i64 rb, .int .i64 rc, .int .i64 nn] rfl q2 size_op rfl rfl (by kernel_rfl) ?_; intro w8 q8 g3 z3; have b8 : Below wr.heap.size wr w8 := ((Below.refl _ wr).grown g2 (Nat.le_refl _) (by simp)).grown g3 g2.size (fun r e => by cases e; exact Nat.le_refl _); have d0 := q8.cell (i := 0) rfl; have d1 := q8.cell (i := 1) rfl; have d2 := q8.cell (i := 2) rfl; have d3 := q8.cell (i := 3) rfl; have d4 := q8.cell (i := 4) rfl; have d5 := q8.cell (i := 5) rfl; clear g2 g3 z2 z3 q2)
          | (refine wpList_run (w := w8) rfl (v := .pointer (some ⟨wr.heap.size, 0, none⟩)) (Held.y_field (S := fun _ => True) (k := 0) (s := 0) rfl rfl Tryd.underlying58 rfl (by kernel_rfl) rfl _ trivial) ?_)
          | (refine wpList_run (w := w8) rfl (v := .pointer (some ⟨wr.heap.size, 1, none⟩)) (Held.y_field (S := fun _ => True) (k := 1) (s := 0) rfl rfl Tryd.underlying58 rfl (by kernel_rfl) rfl _ trivial) ?_)
          | (refine wpList_run (w := w8) rfl (v := .pointer (some ⟨wr.heap.size, 2, none⟩)) (Held.y_field (S := fun _ => True) (k := 2) (s := 0) rfl rfl Tryd.underlying58 rfl (by kernel_rfl) rfl _ trivial) ?_)
          | (refine wpList_run (w := w8) rfl (v := .pointer (some ⟨wr.heap.size, 3, none⟩)) (Held.y_field (S := fun _ => True) (k := 3) (s := 0) rfl rfl Tryd.underlying58 rfl (by kernel_rfl) rfl _ trivial) ?_)
          | (refine wpList_run (w := w8) rfl (v := .pointer (some ⟨wr.heap.size, 4, none⟩)) (Held.y_field (S := fun _ => True) (k := 4) (s := 0) rfl rfl Tryd.underlying58 rfl (by kernel_rfl) rfl _ trivial) ?_)
          | (refine wpList_run (w := w8) rfl (v := .pointer (some ⟨wr.heap.size, 5, none⟩)) (Held.y_field (S := fun _ => True) (k := 5) (s := 0) rfl rfl Tryd.underlying58 rfl (by kernel_rfl) rfl _ trivial) ?_))
        go_ret
        exact ⟨Mem.ret_bool HBAD.out.symm, bw.trans (b8.mono bw.size)⟩
      · by_cases k2 : code > 12
        · have HBAD := Lib.hid (HB.out (by unfold mayO isReg; simp; omega))
          clear HB HG
          go_wp2_with (first
            | (refine wpList_run (w := wr) rfl (v := .pointer (some ⟨b, off + i * 6, none⟩)) (Held.y_addr (S := fun _ => True) rfl rfl rfl (run_addr_of (P := Tryd.prog) 24 58 b off n c i 6 .i64 Tryd.underlying24 size_op hlt) _ trivial) ?_)
            | (refine wpList_run (w := wr) rfl (v := .agg #[.int .i64 code, .int .i64 rd, .int .i64 ra, .int .i64 rb, .int .i64 rc, .int .i64 nn]) (y_load_range (S := fun W => W = wr) (n := 6) (cs := [.int .i64 code, .int .i64 rd, .int .i64 ra, .int .i64 rb, .int .i64 rc, .int .i64 nn]) rfl rfl Tryd.underlying58 rfl size_op rfl (fun W hW => by rw [hW]; exact hx) _ rfl) ?_)
            | (refine wpList_alloc_blk (w := wr) rfl 58 rfl _ zero_op ?_; intro v2 q2 g2 z2)
            | (refine wpList_store_blk (w := v2) rfl 58 _ _ rfl wr.heap.size 6 rfl 58 _ #[.int .i64 code, .int .i64 rd, .int .i64 ra, .int .i64 rb, .int .i64 rc, .int .i64 nn] rfl q2 size_op rfl rfl (by kernel_rfl) ?_; intro w8 q8 g3 z3; have b8 : Below wr.heap.size wr w8 := ((Below.refl _ wr).grown g2 (Nat.le_refl _) (by simp)).grown g3 g2.size (fun r e => by cases e; exact Nat.le_refl _); have d0 := q8.cell (i := 0) rfl; have d1 := q8.cell (i := 1) rfl; have d2 := q8.cell (i := 2) rfl; have d3 := q8.cell (i := 3) rfl; have d4 := q8.cell (i := 4) rfl; have d5 := q8.cell (i := 5) rfl; clear g2 g3 z2 z3 q2)
            | (refine wpList_run (w := w8) rfl (v := .pointer (some ⟨wr.heap.size, 0, none⟩)) (Held.y_field (S := fun _ => True) (k := 0) (s := 0) rfl rfl Tryd.underlying58 rfl (by kernel_rfl) rfl _ trivial) ?_)
            | (refine wpList_run (w := w8) rfl (v := .pointer (some ⟨wr.heap.size, 1, none⟩)) (Held.y_field (S := fun _ => True) (k := 1) (s := 0) rfl rfl Tryd.underlying58 rfl (by kernel_rfl) rfl _ trivial) ?_)
            | (refine wpList_run (w := w8) rfl (v := .pointer (some ⟨wr.heap.size, 2, none⟩)) (Held.y_field (S := fun _ => True) (k := 2) (s := 0) rfl rfl Tryd.underlying58 rfl (by kernel_rfl) rfl _ trivial) ?_)
            | (refine wpList_run (w := w8) rfl (v := .pointer (some ⟨wr.heap.size, 3, none⟩)) (Held.y_field (S := fun _ => True) (k := 3) (s := 0) rfl rfl Tryd.underlying58 rfl (by kernel_rfl) rfl _ trivial) ?_)
            | (refine wpList_run (w := w8) rfl (v := .pointer (some ⟨wr.heap.size, 4, none⟩)) (Held.y_field (S := fun _ => True) (k := 4) (s := 0) rfl rfl Tryd.underlying58 rfl (by kernel_rfl) rfl _ trivial) ?_)
            | (refine wpList_run (w := w8) rfl (v := .pointer (some ⟨wr.heap.size, 5, none⟩)) (Held.y_field (S := fun _ => True) (k := 5) (s := 0) rfl rfl Tryd.underlying58 rfl (by kernel_rfl) rfl _ trivial) ?_))
          go_ret
          exact ⟨Mem.ret_bool HBAD.out.symm, bw.trans (b8.mono bw.size)⟩
        · by_cases k3 : rd < 0
          · have HBAD := Lib.hid (HB.out (by unfold mayO isReg; simp; omega))
            clear HB HG
            go_wp2_with (first
              | (refine wpList_run (w := wr) rfl (v := .pointer (some ⟨b, off + i * 6, none⟩)) (Held.y_addr (S := fun _ => True) rfl rfl rfl (run_addr_of (P := Tryd.prog) 24 58 b off n c i 6 .i64 Tryd.underlying24 size_op hlt) _ trivial) ?_)
              | (refine wpList_run (w := wr) rfl (v := .agg #[.int .i64 code, .int .i64 rd, .int .i64 ra, .int .i64 rb, .int .i64 rc, .int .i64 nn]) (y_load_range (S := fun W => W = wr) (n := 6) (cs := [.int .i64 code, .int .i64 rd, .int .i64 ra, .int .i64 rb, .int .i64 rc, .int .i64 nn]) rfl rfl Tryd.underlying58 rfl size_op rfl (fun W hW => by rw [hW]; exact hx) _ rfl) ?_)
              | (refine wpList_alloc_blk (w := wr) rfl 58 rfl _ zero_op ?_; intro v2 q2 g2 z2)
              | (refine wpList_store_blk (w := v2) rfl 58 _ _ rfl wr.heap.size 6 rfl 58 _ #[.int .i64 code, .int .i64 rd, .int .i64 ra, .int .i64 rb, .int .i64 rc, .int .i64 nn] rfl q2 size_op rfl rfl (by kernel_rfl) ?_; intro w8 q8 g3 z3; have b8 : Below wr.heap.size wr w8 := ((Below.refl _ wr).grown g2 (Nat.le_refl _) (by simp)).grown g3 g2.size (fun r e => by cases e; exact Nat.le_refl _); have d0 := q8.cell (i := 0) rfl; have d1 := q8.cell (i := 1) rfl; have d2 := q8.cell (i := 2) rfl; have d3 := q8.cell (i := 3) rfl; have d4 := q8.cell (i := 4) rfl; have d5 := q8.cell (i := 5) rfl; clear g2 g3 z2 z3 q2)
              | (refine wpList_run (w := w8) rfl (v := .pointer (some ⟨wr.heap.size, 0, none⟩)) (Held.y_field (S := fun _ => True) (k := 0) (s := 0) rfl rfl Tryd.underlying58 rfl (by kernel_rfl) rfl _ trivial) ?_)
              | (refine wpList_run (w := w8) rfl (v := .pointer (some ⟨wr.heap.size, 1, none⟩)) (Held.y_field (S := fun _ => True) (k := 1) (s := 0) rfl rfl Tryd.underlying58 rfl (by kernel_rfl) rfl _ trivial) ?_)
              | (refine wpList_run (w := w8) rfl (v := .pointer (some ⟨wr.heap.size, 2, none⟩)) (Held.y_field (S := fun _ => True) (k := 2) (s := 0) rfl rfl Tryd.underlying58 rfl (by kernel_rfl) rfl _ trivial) ?_)
              | (refine wpList_run (w := w8) rfl (v := .pointer (some ⟨wr.heap.size, 3, none⟩)) (Held.y_field (S := fun _ => True) (k := 3) (s := 0) rfl rfl Tryd.underlying58 rfl (by kernel_rfl) rfl _ trivial) ?_)
              | (refine wpList_run (w := w8) rfl (v := .pointer (some ⟨wr.heap.size, 4, none⟩)) (Held.y_field (S := fun _ => True) (k := 4) (s := 0) rfl rfl Tryd.underlying58 rfl (by kernel_rfl) rfl _ trivial) ?_)
              | (refine wpList_run (w := w8) rfl (v := .pointer (some ⟨wr.heap.size, 5, none⟩)) (Held.y_field (S := fun _ => True) (k := 5) (s := 0) rfl rfl Tryd.underlying58 rfl (by kernel_rfl) rfl _ trivial) ?_))
            go_ret
            exact ⟨Mem.ret_bool HBAD.out.symm, bw.trans (b8.mono bw.size)⟩
          · by_cases k4 : rd ≥ 8
            · have HBAD := Lib.hid (HB.out (by unfold mayO isReg; simp; omega))
              clear HB HG
              go_wp2_with (first
                | (refine wpList_run (w := wr) rfl (v := .pointer (some ⟨b, off + i * 6, none⟩)) (Held.y_addr (S := fun _ => True) rfl rfl rfl (run_addr_of (P := Tryd.prog) 24 58 b off n c i 6 .i64 Tryd.underlying24 size_op hlt) _ trivial) ?_)
                | (refine wpList_run (w := wr) rfl (v := .agg #[.int .i64 code, .int .i64 rd, .int .i64 ra, .int .i64 rb, .int .i64 rc, .int .i64 nn]) (y_load_range (S := fun W => W = wr) (n := 6) (cs := [.int .i64 code, .int .i64 rd, .int .i64 ra, .int .i64 rb, .int .i64 rc, .int .i64 nn]) rfl rfl Tryd.underlying58 rfl size_op rfl (fun W hW => by rw [hW]; exact hx) _ rfl) ?_)
                | (refine wpList_alloc_blk (w := wr) rfl 58 rfl _ zero_op ?_; intro v2 q2 g2 z2)
                | (refine wpList_store_blk (w := v2) rfl 58 _ _ rfl wr.heap.size 6 rfl 58 _ #[.int .i64 code, .int .i64 rd, .int .i64 ra, .int .i64 rb, .int .i64 rc, .int .i64 nn] rfl q2 size_op rfl rfl (by kernel_rfl) ?_; intro w8 q8 g3 z3; have b8 : Below wr.heap.size wr w8 := ((Below.refl _ wr).grown g2 (Nat.le_refl _) (by simp)).grown g3 g2.size (fun r e => by cases e; exact Nat.le_refl _); have d0 := q8.cell (i := 0) rfl; have d1 := q8.cell (i := 1) rfl; have d2 := q8.cell (i := 2) rfl; have d3 := q8.cell (i := 3) rfl; have d4 := q8.cell (i := 4) rfl; have d5 := q8.cell (i := 5) rfl; clear g2 g3 z2 z3 q2)
                | (refine wpList_run (w := w8) rfl (v := .pointer (some ⟨wr.heap.size, 0, none⟩)) (Held.y_field (S := fun _ => True) (k := 0) (s := 0) rfl rfl Tryd.underlying58 rfl (by kernel_rfl) rfl _ trivial) ?_)
                | (refine wpList_run (w := w8) rfl (v := .pointer (some ⟨wr.heap.size, 1, none⟩)) (Held.y_field (S := fun _ => True) (k := 1) (s := 0) rfl rfl Tryd.underlying58 rfl (by kernel_rfl) rfl _ trivial) ?_)
                | (refine wpList_run (w := w8) rfl (v := .pointer (some ⟨wr.heap.size, 2, none⟩)) (Held.y_field (S := fun _ => True) (k := 2) (s := 0) rfl rfl Tryd.underlying58 rfl (by kernel_rfl) rfl _ trivial) ?_)
                | (refine wpList_run (w := w8) rfl (v := .pointer (some ⟨wr.heap.size, 3, none⟩)) (Held.y_field (S := fun _ => True) (k := 3) (s := 0) rfl rfl Tryd.underlying58 rfl (by kernel_rfl) rfl _ trivial) ?_)
                | (refine wpList_run (w := w8) rfl (v := .pointer (some ⟨wr.heap.size, 4, none⟩)) (Held.y_field (S := fun _ => True) (k := 4) (s := 0) rfl rfl Tryd.underlying58 rfl (by kernel_rfl) rfl _ trivial) ?_)
                | (refine wpList_run (w := w8) rfl (v := .pointer (some ⟨wr.heap.size, 5, none⟩)) (Held.y_field (S := fun _ => True) (k := 5) (s := 0) rfl rfl Tryd.underlying58 rfl (by kernel_rfl) rfl _ trivial) ?_))
              go_ret
              exact ⟨Mem.ret_bool HBAD.out.symm, bw.trans (b8.mono bw.size)⟩
            · by_cases k5 : ra < 0
              · have HBAD := Lib.hid (HB.out (by unfold mayO isReg; simp; omega))
                clear HB HG
                go_wp2_with (first
                  | (refine wpList_run (w := wr) rfl (v := .pointer (some ⟨b, off + i * 6, none⟩)) (Held.y_addr (S := fun _ => True) rfl rfl rfl (run_addr_of (P := Tryd.prog) 24 58 b off n c i 6 .i64 Tryd.underlying24 size_op hlt) _ trivial) ?_)
                  | (refine wpList_run (w := wr) rfl (v := .agg #[.int .i64 code, .int .i64 rd, .int .i64 ra, .int .i64 rb, .int .i64 rc, .int .i64 nn]) (y_load_range (S := fun W => W = wr) (n := 6) (cs := [.int .i64 code, .int .i64 rd, .int .i64 ra, .int .i64 rb, .int .i64 rc, .int .i64 nn]) rfl rfl Tryd.underlying58 rfl size_op rfl (fun W hW => by rw [hW]; exact hx) _ rfl) ?_)
                  | (refine wpList_alloc_blk (w := wr) rfl 58 rfl _ zero_op ?_; intro v2 q2 g2 z2)
                  | (refine wpList_store_blk (w := v2) rfl 58 _ _ rfl wr.heap.size 6 rfl 58 _ #[.int .i64 code, .int .i64 rd, .int .i64 ra, .int .i64 rb, .int .i64 rc, .int .i64 nn] rfl q2 size_op rfl rfl (by kernel_rfl) ?_; intro w8 q8 g3 z3; have b8 : Below wr.heap.size wr w8 := ((Below.refl _ wr).grown g2 (Nat.le_refl _) (by simp)).grown g3 g2.size (fun r e => by cases e; exact Nat.le_refl _); have d0 := q8.cell (i := 0) rfl; have d1 := q8.cell (i := 1) rfl; have d2 := q8.cell (i := 2) rfl; have d3 := q8.cell (i := 3) rfl; have d4 := q8.cell (i := 4) rfl; have d5 := q8.cell (i := 5) rfl; clear g2 g3 z2 z3 q2)
                  | (refine wpList_run (w := w8) rfl (v := .pointer (some ⟨wr.heap.size, 0, none⟩)) (Held.y_field (S := fun _ => True) (k := 0) (s := 0) rfl rfl Tryd.underlying58 rfl (by kernel_rfl) rfl _ trivial) ?_)
                  | (refine wpList_run (w := w8) rfl (v := .pointer (some ⟨wr.heap.size, 1, none⟩)) (Held.y_field (S := fun _ => True) (k := 1) (s := 0) rfl rfl Tryd.underlying58 rfl (by kernel_rfl) rfl _ trivial) ?_)
                  | (refine wpList_run (w := w8) rfl (v := .pointer (some ⟨wr.heap.size, 2, none⟩)) (Held.y_field (S := fun _ => True) (k := 2) (s := 0) rfl rfl Tryd.underlying58 rfl (by kernel_rfl) rfl _ trivial) ?_)
                  | (refine wpList_run (w := w8) rfl (v := .pointer (some ⟨wr.heap.size, 3, none⟩)) (Held.y_field (S := fun _ => True) (k := 3) (s := 0) rfl rfl Tryd.underlying58 rfl (by kernel_rfl) rfl _ trivial) ?_)
                  | (refine wpList_run (w := w8) rfl (v := .pointer (some ⟨wr.heap.size, 4, none⟩)) (Held.y_field (S := fun _ => True) (k := 4) (s := 0) rfl rfl Tryd.underlying58 rfl (by kernel_rfl) rfl _ trivial) ?_)
                  | (refine wpList_run (w := w8) rfl (v := .pointer (some ⟨wr.heap.size, 5, none⟩)) (Held.y_field (S := fun _ => True) (k := 5) (s := 0) rfl rfl Tryd.underlying58 rfl (by kernel_rfl) rfl _ trivial) ?_))
                go_ret
                exact ⟨Mem.ret_bool HBAD.out.symm, bw.trans (b8.mono bw.size)⟩
              · by_cases k6 : ra ≥ 8
                · have HBAD := Lib.hid (HB.out (by unfold mayO isReg; simp; omega))
                  clear HB HG
                  go_wp2_with (first
                    | (refine wpList_run (w := wr) rfl (v := .pointer (some ⟨b, off + i * 6, none⟩)) (Held.y_addr (S := fun _ => True) rfl rfl rfl (run_addr_of (P := Tryd.prog) 24 58 b off n c i 6 .i64 Tryd.underlying24 size_op hlt) _ trivial) ?_)
                    | (refine wpList_run (w := wr) rfl (v := .agg #[.int .i64 code, .int .i64 rd, .int .i64 ra, .int .i64 rb, .int .i64 rc, .int .i64 nn]) (y_load_range (S := fun W => W = wr) (n := 6) (cs := [.int .i64 code, .int .i64 rd, .int .i64 ra, .int .i64 rb, .int .i64 rc, .int .i64 nn]) rfl rfl Tryd.underlying58 rfl size_op rfl (fun W hW => by rw [hW]; exact hx) _ rfl) ?_)
                    | (refine wpList_alloc_blk (w := wr) rfl 58 rfl _ zero_op ?_; intro v2 q2 g2 z2)
                    | (refine wpList_store_blk (w := v2) rfl 58 _ _ rfl wr.heap.size 6 rfl 58 _ #[.int .i64 code, .int .i64 rd, .int .i64 ra, .int .i64 rb, .int .i64 rc, .int .i64 nn] rfl q2 size_op rfl rfl (by kernel_rfl) ?_; intro w8 q8 g3 z3; have b8 : Below wr.heap.size wr w8 := ((Below.refl _ wr).grown g2 (Nat.le_refl _) (by simp)).grown g3 g2.size (fun r e => by cases e; exact Nat.le_refl _); have d0 := q8.cell (i := 0) rfl; have d1 := q8.cell (i := 1) rfl; have d2 := q8.cell (i := 2) rfl; have d3 := q8.cell (i := 3) rfl; have d4 := q8.cell (i := 4) rfl; have d5 := q8.cell (i := 5) rfl; clear g2 g3 z2 z3 q2)
                    | (refine wpList_run (w := w8) rfl (v := .pointer (some ⟨wr.heap.size, 0, none⟩)) (Held.y_field (S := fun _ => True) (k := 0) (s := 0) rfl rfl Tryd.underlying58 rfl (by kernel_rfl) rfl _ trivial) ?_)
                    | (refine wpList_run (w := w8) rfl (v := .pointer (some ⟨wr.heap.size, 1, none⟩)) (Held.y_field (S := fun _ => True) (k := 1) (s := 0) rfl rfl Tryd.underlying58 rfl (by kernel_rfl) rfl _ trivial) ?_)
                    | (refine wpList_run (w := w8) rfl (v := .pointer (some ⟨wr.heap.size, 2, none⟩)) (Held.y_field (S := fun _ => True) (k := 2) (s := 0) rfl rfl Tryd.underlying58 rfl (by kernel_rfl) rfl _ trivial) ?_)
                    | (refine wpList_run (w := w8) rfl (v := .pointer (some ⟨wr.heap.size, 3, none⟩)) (Held.y_field (S := fun _ => True) (k := 3) (s := 0) rfl rfl Tryd.underlying58 rfl (by kernel_rfl) rfl _ trivial) ?_)
                    | (refine wpList_run (w := w8) rfl (v := .pointer (some ⟨wr.heap.size, 4, none⟩)) (Held.y_field (S := fun _ => True) (k := 4) (s := 0) rfl rfl Tryd.underlying58 rfl (by kernel_rfl) rfl _ trivial) ?_)
                    | (refine wpList_run (w := w8) rfl (v := .pointer (some ⟨wr.heap.size, 5, none⟩)) (Held.y_field (S := fun _ => True) (k := 5) (s := 0) rfl rfl Tryd.underlying58 rfl (by kernel_rfl) rfl _ trivial) ?_))
                  go_ret
                  exact ⟨Mem.ret_bool HBAD.out.symm, bw.trans (b8.mono bw.size)⟩
                · by_cases k7 : rb < 0
                  · have HBAD := Lib.hid (HB.out (by unfold mayO isReg; simp; omega))
                    clear HB HG
                    go_wp2_with (first
                      | (refine wpList_run (w := wr) rfl (v := .pointer (some ⟨b, off + i * 6, none⟩)) (Held.y_addr (S := fun _ => True) rfl rfl rfl (run_addr_of (P := Tryd.prog) 24 58 b off n c i 6 .i64 Tryd.underlying24 size_op hlt) _ trivial) ?_)
                      | (refine wpList_run (w := wr) rfl (v := .agg #[.int .i64 code, .int .i64 rd, .int .i64 ra, .int .i64 rb, .int .i64 rc, .int .i64 nn]) (y_load_range (S := fun W => W = wr) (n := 6) (cs := [.int .i64 code, .int .i64 rd, .int .i64 ra, .int .i64 rb, .int .i64 rc, .int .i64 nn]) rfl rfl Tryd.underlying58 rfl size_op rfl (fun W hW => by rw [hW]; exact hx) _ rfl) ?_)
                      | (refine wpList_alloc_blk (w := wr) rfl 58 rfl _ zero_op ?_; intro v2 q2 g2 z2)
                      | (refine wpList_store_blk (w := v2) rfl 58 _ _ rfl wr.heap.size 6 rfl 58 _ #[.int .i64 code, .int .i64 rd, .int .i64 ra, .int .i64 rb, .int .i64 rc, .int .i64 nn] rfl q2 size_op rfl rfl (by kernel_rfl) ?_; intro w8 q8 g3 z3; have b8 : Below wr.heap.size wr w8 := ((Below.refl _ wr).grown g2 (Nat.le_refl _) (by simp)).grown g3 g2.size (fun r e => by cases e; exact Nat.le_refl _); have d0 := q8.cell (i := 0) rfl; have d1 := q8.cell (i := 1) rfl; have d2 := q8.cell (i := 2) rfl; have d3 := q8.cell (i := 3) rfl; have d4 := q8.cell (i := 4) rfl; have d5 := q8.cell (i := 5) rfl; clear g2 g3 z2 z3 q2)
                      | (refine wpList_run (w := w8) rfl (v := .pointer (some ⟨wr.heap.size, 0, none⟩)) (Held.y_field (S := fun _ => True) (k := 0) (s := 0) rfl rfl Tryd.underlying58 rfl (by kernel_rfl) rfl _ trivial) ?_)
                      | (refine wpList_run (w := w8) rfl (v := .pointer (some ⟨wr.heap.size, 1, none⟩)) (Held.y_field (S := fun _ => True) (k := 1) (s := 0) rfl rfl Tryd.underlying58 rfl (by kernel_rfl) rfl _ trivial) ?_)
                      | (refine wpList_run (w := w8) rfl (v := .pointer (some ⟨wr.heap.size, 2, none⟩)) (Held.y_field (S := fun _ => True) (k := 2) (s := 0) rfl rfl Tryd.underlying58 rfl (by kernel_rfl) rfl _ trivial) ?_)
                      | (refine wpList_run (w := w8) rfl (v := .pointer (some ⟨wr.heap.size, 3, none⟩)) (Held.y_field (S := fun _ => True) (k := 3) (s := 0) rfl rfl Tryd.underlying58 rfl (by kernel_rfl) rfl _ trivial) ?_)
                      | (refine wpList_run (w := w8) rfl (v := .pointer (some ⟨wr.heap.size, 4, none⟩)) (Held.y_field (S := fun _ => True) (k := 4) (s := 0) rfl rfl Tryd.underlying58 rfl (by kernel_rfl) rfl _ trivial) ?_)
                      | (refine wpList_run (w := w8) rfl (v := .pointer (some ⟨wr.heap.size, 5, none⟩)) (Held.y_field (S := fun _ => True) (k := 5) (s := 0) rfl rfl Tryd.underlying58 rfl (by kernel_rfl) rfl _ trivial) ?_))
                    go_ret
                    exact ⟨Mem.ret_bool HBAD.out.symm, bw.trans (b8.mono bw.size)⟩
                  · by_cases k8 : rb ≥ 8
                    · have HBAD := Lib.hid (HB.out (by unfold mayO isReg; simp; omega))
                      clear HB HG
                      go_wp2_with (first
                        | (refine wpList_run (w := wr) rfl (v := .pointer (some ⟨b, off + i * 6, none⟩)) (Held.y_addr (S := fun _ => True) rfl rfl rfl (run_addr_of (P := Tryd.prog) 24 58 b off n c i 6 .i64 Tryd.underlying24 size_op hlt) _ trivial) ?_)
                        | (refine wpList_run (w := wr) rfl (v := .agg #[.int .i64 code, .int .i64 rd, .int .i64 ra, .int .i64 rb, .int .i64 rc, .int .i64 nn]) (y_load_range (S := fun W => W = wr) (n := 6) (cs := [.int .i64 code, .int .i64 rd, .int .i64 ra, .int .i64 rb, .int .i64 rc, .int .i64 nn]) rfl rfl Tryd.underlying58 rfl size_op rfl (fun W hW => by rw [hW]; exact hx) _ rfl) ?_)
                        | (refine wpList_alloc_blk (w := wr) rfl 58 rfl _ zero_op ?_; intro v2 q2 g2 z2)
                        | (refine wpList_store_blk (w := v2) rfl 58 _ _ rfl wr.heap.size 6 rfl 58 _ #[.int .i64 code, .int .i64 rd, .int .i64 ra, .int .i64 rb, .int .i64 rc, .int .i64 nn] rfl q2 size_op rfl rfl (by kernel_rfl) ?_; intro w8 q8 g3 z3; have b8 : Below wr.heap.size wr w8 := ((Below.refl _ wr).grown g2 (Nat.le_refl _) (by simp)).grown g3 g2.size (fun r e => by cases e; exact Nat.le_refl _); have d0 := q8.cell (i := 0) rfl; have d1 := q8.cell (i := 1) rfl; have d2 := q8.cell (i := 2) rfl; have d3 := q8.cell (i := 3) rfl; have d4 := q8.cell (i := 4) rfl; have d5 := q8.cell (i := 5) rfl; clear g2 g3 z2 z3 q2)
                        | (refine wpList_run (w := w8) rfl (v := .pointer (some ⟨wr.heap.size, 0, none⟩)) (Held.y_field (S := fun _ => True) (k := 0) (s := 0) rfl rfl Tryd.underlying58 rfl (by kernel_rfl) rfl _ trivial) ?_)
                        | (refine wpList_run (w := w8) rfl (v := .pointer (some ⟨wr.heap.size, 1, none⟩)) (Held.y_field (S := fun _ => True) (k := 1) (s := 0) rfl rfl Tryd.underlying58 rfl (by kernel_rfl) rfl _ trivial) ?_)
                        | (refine wpList_run (w := w8) rfl (v := .pointer (some ⟨wr.heap.size, 2, none⟩)) (Held.y_field (S := fun _ => True) (k := 2) (s := 0) rfl rfl Tryd.underlying58 rfl (by kernel_rfl) rfl _ trivial) ?_)
                        | (refine wpList_run (w := w8) rfl (v := .pointer (some ⟨wr.heap.size, 3, none⟩)) (Held.y_field (S := fun _ => True) (k := 3) (s := 0) rfl rfl Tryd.underlying58 rfl (by kernel_rfl) rfl _ trivial) ?_)
                        | (refine wpList_run (w := w8) rfl (v := .pointer (some ⟨wr.heap.size, 4, none⟩)) (Held.y_field (S := fun _ => True) (k := 4) (s := 0) rfl rfl Tryd.underlying58 rfl (by kernel_rfl) rfl _ trivial) ?_)
                        | (refine wpList_run (w := w8) rfl (v := .pointer (some ⟨wr.heap.size, 5, none⟩)) (Held.y_field (S := fun _ => True) (k := 5) (s := 0) rfl rfl Tryd.underlying58 rfl (by kernel_rfl) rfl _ trivial) ?_))
                      go_ret
                      exact ⟨Mem.ret_bool HBAD.out.symm, bw.trans (b8.mono bw.size)⟩
                    · by_cases k9 : rc < 0
                      · have HBAD := Lib.hid (HB.out (by unfold mayO isReg; simp; omega))
                        clear HB HG
                        go_wp2_with (first
                          | (refine wpList_run (w := wr) rfl (v := .pointer (some ⟨b, off + i * 6, none⟩)) (Held.y_addr (S := fun _ => True) rfl rfl rfl (run_addr_of (P := Tryd.prog) 24 58 b off n c i 6 .i64 Tryd.underlying24 size_op hlt) _ trivial) ?_)
                          | (refine wpList_run (w := wr) rfl (v := .agg #[.int .i64 code, .int .i64 rd, .int .i64 ra, .int .i64 rb, .int .i64 rc, .int .i64 nn]) (y_load_range (S := fun W => W = wr) (n := 6) (cs := [.int .i64 code, .int .i64 rd, .int .i64 ra, .int .i64 rb, .int .i64 rc, .int .i64 nn]) rfl rfl Tryd.underlying58 rfl size_op rfl (fun W hW => by rw [hW]; exact hx) _ rfl) ?_)
                          | (refine wpList_alloc_blk (w := wr) rfl 58 rfl _ zero_op ?_; intro v2 q2 g2 z2)
                          | (refine wpList_store_blk (w := v2) rfl 58 _ _ rfl wr.heap.size 6 rfl 58 _ #[.int .i64 code, .int .i64 rd, .int .i64 ra, .int .i64 rb, .int .i64 rc, .int .i64 nn] rfl q2 size_op rfl rfl (by kernel_rfl) ?_; intro w8 q8 g3 z3; have b8 : Below wr.heap.size wr w8 := ((Below.refl _ wr).grown g2 (Nat.le_refl _) (by simp)).grown g3 g2.size (fun r e => by cases e; exact Nat.le_refl _); have d0 := q8.cell (i := 0) rfl; have d1 := q8.cell (i := 1) rfl; have d2 := q8.cell (i := 2) rfl; have d3 := q8.cell (i := 3) rfl; have d4 := q8.cell (i := 4) rfl; have d5 := q8.cell (i := 5) rfl; clear g2 g3 z2 z3 q2)
                          | (refine wpList_run (w := w8) rfl (v := .pointer (some ⟨wr.heap.size, 0, none⟩)) (Held.y_field (S := fun _ => True) (k := 0) (s := 0) rfl rfl Tryd.underlying58 rfl (by kernel_rfl) rfl _ trivial) ?_)
                          | (refine wpList_run (w := w8) rfl (v := .pointer (some ⟨wr.heap.size, 1, none⟩)) (Held.y_field (S := fun _ => True) (k := 1) (s := 0) rfl rfl Tryd.underlying58 rfl (by kernel_rfl) rfl _ trivial) ?_)
                          | (refine wpList_run (w := w8) rfl (v := .pointer (some ⟨wr.heap.size, 2, none⟩)) (Held.y_field (S := fun _ => True) (k := 2) (s := 0) rfl rfl Tryd.underlying58 rfl (by kernel_rfl) rfl _ trivial) ?_)
                          | (refine wpList_run (w := w8) rfl (v := .pointer (some ⟨wr.heap.size, 3, none⟩)) (Held.y_field (S := fun _ => True) (k := 3) (s := 0) rfl rfl Tryd.underlying58 rfl (by kernel_rfl) rfl _ trivial) ?_)
                          | (refine wpList_run (w := w8) rfl (v := .pointer (some ⟨wr.heap.size, 4, none⟩)) (Held.y_field (S := fun _ => True) (k := 4) (s := 0) rfl rfl Tryd.underlying58 rfl (by kernel_rfl) rfl _ trivial) ?_)
                          | (refine wpList_run (w := w8) rfl (v := .pointer (some ⟨wr.heap.size, 5, none⟩)) (Held.y_field (S := fun _ => True) (k := 5) (s := 0) rfl rfl Tryd.underlying58 rfl (by kernel_rfl) rfl _ trivial) ?_))
                        go_ret
                        exact ⟨Mem.ret_bool HBAD.out.symm, bw.trans (b8.mono bw.size)⟩
                      · by_cases k10 : rc ≥ 8
                        · have HBAD := Lib.hid (HB.out (by unfold mayO isReg; simp; omega))
                          clear HB HG
                          go_wp2_with (first
                            | (refine wpList_run (w := wr) rfl (v := .pointer (some ⟨b, off + i * 6, none⟩)) (Held.y_addr (S := fun _ => True) rfl rfl rfl (run_addr_of (P := Tryd.prog) 24 58 b off n c i 6 .i64 Tryd.underlying24 size_op hlt) _ trivial) ?_)
                            | (refine wpList_run (w := wr) rfl (v := .agg #[.int .i64 code, .int .i64 rd, .int .i64 ra, .int .i64 rb, .int .i64 rc, .int .i64 nn]) (y_load_range (S := fun W => W = wr) (n := 6) (cs := [.int .i64 code, .int .i64 rd, .int .i64 ra, .int .i64 rb, .int .i64 rc, .int .i64 nn]) rfl rfl Tryd.underlying58 rfl size_op rfl (fun W hW => by rw [hW]; exact hx) _ rfl) ?_)
                            | (refine wpList_alloc_blk (w := wr) rfl 58 rfl _ zero_op ?_; intro v2 q2 g2 z2)
                            | (refine wpList_store_blk (w := v2) rfl 58 _ _ rfl wr.heap.size 6 rfl 58 _ #[.int .i64 code, .int .i64 rd, .int .i64 ra, .int .i64 rb, .int .i64 rc, .int .i64 nn] rfl q2 size_op rfl rfl (by kernel_rfl) ?_; intro w8 q8 g3 z3; have b8 : Below wr.heap.size wr w8 := ((Below.refl _ wr).grown g2 (Nat.le_refl _) (by simp)).grown g3 g2.size (fun r e => by cases e; exact Nat.le_refl _); have d0 := q8.cell (i := 0) rfl; have d1 := q8.cell (i := 1) rfl; have d2 := q8.cell (i := 2) rfl; have d3 := q8.cell (i := 3) rfl; have d4 := q8.cell (i := 4) rfl; have d5 := q8.cell (i := 5) rfl; clear g2 g3 z2 z3 q2)
                            | (refine wpList_run (w := w8) rfl (v := .pointer (some ⟨wr.heap.size, 0, none⟩)) (Held.y_field (S := fun _ => True) (k := 0) (s := 0) rfl rfl Tryd.underlying58 rfl (by kernel_rfl) rfl _ trivial) ?_)
                            | (refine wpList_run (w := w8) rfl (v := .pointer (some ⟨wr.heap.size, 1, none⟩)) (Held.y_field (S := fun _ => True) (k := 1) (s := 0) rfl rfl Tryd.underlying58 rfl (by kernel_rfl) rfl _ trivial) ?_)
                            | (refine wpList_run (w := w8) rfl (v := .pointer (some ⟨wr.heap.size, 2, none⟩)) (Held.y_field (S := fun _ => True) (k := 2) (s := 0) rfl rfl Tryd.underlying58 rfl (by kernel_rfl) rfl _ trivial) ?_)
                            | (refine wpList_run (w := w8) rfl (v := .pointer (some ⟨wr.heap.size, 3, none⟩)) (Held.y_field (S := fun _ => True) (k := 3) (s := 0) rfl rfl Tryd.underlying58 rfl (by kernel_rfl) rfl _ trivial) ?_)
                            | (refine wpList_run (w := w8) rfl (v := .pointer (some ⟨wr.heap.size, 4, none⟩)) (Held.y_field (S := fun _ => True) (k := 4) (s := 0) rfl rfl Tryd.underlying58 rfl (by kernel_rfl) rfl _ trivial) ?_)
                            | (refine wpList_run (w := w8) rfl (v := .pointer (some ⟨wr.heap.size, 5, none⟩)) (Held.y_field (S := fun _ => True) (k := 5) (s := 0) rfl rfl Tryd.underlying58 rfl (by kernel_rfl) rfl _ trivial) ?_))
                          go_ret
                          exact ⟨Mem.ret_bool HBAD.out.symm, bw.trans (b8.mono bw.size)⟩
                        · by_cases h12 : code = 12
                          · subst h12
                            by_cases k11 : nn < 0
                            · have HBAD := Lib.hid (HB.out (by unfold mayO isReg; simp; omega))
                              clear HB HG k1 k2
                              go_wp2_with (first
                                | (refine wpList_run (w := wr) rfl (v := .pointer (some ⟨b, off + i * 6, none⟩)) (Held.y_addr (S := fun _ => True) rfl rfl rfl (run_addr_of (P := Tryd.prog) 24 58 b off n c i 6 .i64 Tryd.underlying24 size_op hlt) _ trivial) ?_)
                                | (refine wpList_run (w := wr) rfl (v := .agg #[.int .i64 12, .int .i64 rd, .int .i64 ra, .int .i64 rb, .int .i64 rc, .int .i64 nn]) (y_load_range (S := fun W => W = wr) (n := 6) (cs := [.int .i64 12, .int .i64 rd, .int .i64 ra, .int .i64 rb, .int .i64 rc, .int .i64 nn]) rfl rfl Tryd.underlying58 rfl size_op rfl (fun W hW => by rw [hW]; exact hx) _ rfl) ?_)
                                | (refine wpList_alloc_blk (w := wr) rfl 58 rfl _ zero_op ?_; intro v2 q2 g2 z2)
                                | (refine wpList_store_blk (w := v2) rfl 58 _ _ rfl wr.heap.size 6 rfl 58 _ #[.int .i64 12, .int .i64 rd, .int .i64 ra, .int .i64 rb, .int .i64 rc, .int .i64 nn] rfl q2 size_op rfl rfl (by kernel_rfl) ?_; intro w8 q8 g3 z3; have b8 : Below wr.heap.size wr w8 := ((Below.refl _ wr).grown g2 (Nat.le_refl _) (by simp)).grown g3 g2.size (fun r e => by cases e; exact Nat.le_refl _); have d0 := q8.cell (i := 0) rfl; have d1 := q8.cell (i := 1) rfl; have d2 := q8.cell (i := 2) rfl; have d3 := q8.cell (i := 3) rfl; have d4 := q8.cell (i := 4) rfl; have d5 := q8.cell (i := 5) rfl; clear g2 g3 z2 z3 q2)
                                | (refine wpList_run (w := w8) rfl (v := .pointer (some ⟨wr.heap.size, 0, none⟩)) (Held.y_field (S := fun _ => True) (k := 0) (s := 0) rfl rfl Tryd.underlying58 rfl (by kernel_rfl) rfl _ trivial) ?_)
                                | (refine wpList_run (w := w8) rfl (v := .pointer (some ⟨wr.heap.size, 1, none⟩)) (Held.y_field (S := fun _ => True) (k := 1) (s := 0) rfl rfl Tryd.underlying58 rfl (by kernel_rfl) rfl _ trivial) ?_)
                                | (refine wpList_run (w := w8) rfl (v := .pointer (some ⟨wr.heap.size, 2, none⟩)) (Held.y_field (S := fun _ => True) (k := 2) (s := 0) rfl rfl Tryd.underlying58 rfl (by kernel_rfl) rfl _ trivial) ?_)
                                | (refine wpList_run (w := w8) rfl (v := .pointer (some ⟨wr.heap.size, 3, none⟩)) (Held.y_field (S := fun _ => True) (k := 3) (s := 0) rfl rfl Tryd.underlying58 rfl (by kernel_rfl) rfl _ trivial) ?_)
                                | (refine wpList_run (w := w8) rfl (v := .pointer (some ⟨wr.heap.size, 4, none⟩)) (Held.y_field (S := fun _ => True) (k := 4) (s := 0) rfl rfl Tryd.underlying58 rfl (by kernel_rfl) rfl _ trivial) ?_)
                                | (refine wpList_run (w := w8) rfl (v := .pointer (some ⟨wr.heap.size, 5, none⟩)) (Held.y_field (S := fun _ => True) (k := 5) (s := 0) rfl rfl Tryd.underlying58 rfl (by kernel_rfl) rfl _ trivial) ?_))
                              go_ret
                              exact ⟨Mem.ret_bool HBAD.out.symm, bw.trans (b8.mono bw.size)⟩
                            · by_cases k12 : nn ≥ k
                              · have HBAD := Lib.hid (HB.out (by unfold mayO isReg; simp; omega))
                                clear HB HG k1 k2
                                go_wp2_with (first
                                  | (refine wpList_run (w := wr) rfl (v := .pointer (some ⟨b, off + i * 6, none⟩)) (Held.y_addr (S := fun _ => True) rfl rfl rfl (run_addr_of (P := Tryd.prog) 24 58 b off n c i 6 .i64 Tryd.underlying24 size_op hlt) _ trivial) ?_)
                                  | (refine wpList_run (w := wr) rfl (v := .agg #[.int .i64 12, .int .i64 rd, .int .i64 ra, .int .i64 rb, .int .i64 rc, .int .i64 nn]) (y_load_range (S := fun W => W = wr) (n := 6) (cs := [.int .i64 12, .int .i64 rd, .int .i64 ra, .int .i64 rb, .int .i64 rc, .int .i64 nn]) rfl rfl Tryd.underlying58 rfl size_op rfl (fun W hW => by rw [hW]; exact hx) _ rfl) ?_)
                                  | (refine wpList_alloc_blk (w := wr) rfl 58 rfl _ zero_op ?_; intro v2 q2 g2 z2)
                                  | (refine wpList_store_blk (w := v2) rfl 58 _ _ rfl wr.heap.size 6 rfl 58 _ #[.int .i64 12, .int .i64 rd, .int .i64 ra, .int .i64 rb, .int .i64 rc, .int .i64 nn] rfl q2 size_op rfl rfl (by kernel_rfl) ?_; intro w8 q8 g3 z3; have b8 : Below wr.heap.size wr w8 := ((Below.refl _ wr).grown g2 (Nat.le_refl _) (by simp)).grown g3 g2.size (fun r e => by cases e; exact Nat.le_refl _); have d0 := q8.cell (i := 0) rfl; have d1 := q8.cell (i := 1) rfl; have d2 := q8.cell (i := 2) rfl; have d3 := q8.cell (i := 3) rfl; have d4 := q8.cell (i := 4) rfl; have d5 := q8.cell (i := 5) rfl; clear g2 g3 z2 z3 q2)
                                  | (refine wpList_run (w := w8) rfl (v := .pointer (some ⟨wr.heap.size, 0, none⟩)) (Held.y_field (S := fun _ => True) (k := 0) (s := 0) rfl rfl Tryd.underlying58 rfl (by kernel_rfl) rfl _ trivial) ?_)
                                  | (refine wpList_run (w := w8) rfl (v := .pointer (some ⟨wr.heap.size, 1, none⟩)) (Held.y_field (S := fun _ => True) (k := 1) (s := 0) rfl rfl Tryd.underlying58 rfl (by kernel_rfl) rfl _ trivial) ?_)
                                  | (refine wpList_run (w := w8) rfl (v := .pointer (some ⟨wr.heap.size, 2, none⟩)) (Held.y_field (S := fun _ => True) (k := 2) (s := 0) rfl rfl Tryd.underlying58 rfl (by kernel_rfl) rfl _ trivial) ?_)
                                  | (refine wpList_run (w := w8) rfl (v := .pointer (some ⟨wr.heap.size, 3, none⟩)) (Held.y_field (S := fun _ => True) (k := 3) (s := 0) rfl rfl Tryd.underlying58 rfl (by kernel_rfl) rfl _ trivial) ?_)
                                  | (refine wpList_run (w := w8) rfl (v := .pointer (some ⟨wr.heap.size, 4, none⟩)) (Held.y_field (S := fun _ => True) (k := 4) (s := 0) rfl rfl Tryd.underlying58 rfl (by kernel_rfl) rfl _ trivial) ?_)
                                  | (refine wpList_run (w := w8) rfl (v := .pointer (some ⟨wr.heap.size, 5, none⟩)) (Held.y_field (S := fun _ => True) (k := 5) (s := 0) rfl rfl Tryd.underlying58 rfl (by kernel_rfl) rfl _ trivial) ?_))
                                go_ret
                                exact ⟨Mem.ret_bool HBAD.out.symm, bw.trans (b8.mono bw.size)⟩
                              · have HNX := HG.out (by unfold mayO isReg; simp; omega)
                                clear HB HG k1 k2
                                go_wp2_with (first
                                  | (refine wpList_run (w := wr) rfl (v := .pointer (some ⟨b, off + i * 6, none⟩)) (Held.y_addr (S := fun _ => True) rfl rfl rfl (run_addr_of (P := Tryd.prog) 24 58 b off n c i 6 .i64 Tryd.underlying24 size_op hlt) _ trivial) ?_)
                                  | (refine wpList_run (w := wr) rfl (v := .agg #[.int .i64 12, .int .i64 rd, .int .i64 ra, .int .i64 rb, .int .i64 rc, .int .i64 nn]) (y_load_range (S := fun W => W = wr) (n := 6) (cs := [.int .i64 12, .int .i64 rd, .int .i64 ra, .int .i64 rb, .int .i64 rc, .int .i64 nn]) rfl rfl Tryd.underlying58 rfl size_op rfl (fun W hW => by rw [hW]; exact hx) _ rfl) ?_)
                                  | (refine wpList_alloc_blk (w := wr) rfl 58 rfl _ zero_op ?_; intro v2 q2 g2 z2)
                                  | (refine wpList_store_blk (w := v2) rfl 58 _ _ rfl wr.heap.size 6 rfl 58 _ #[.int .i64 12, .int .i64 rd, .int .i64 ra, .int .i64 rb, .int .i64 rc, .int .i64 nn] rfl q2 size_op rfl rfl (by kernel_rfl) ?_; intro w8 q8 g3 z3; have b8 : Below wr.heap.size wr w8 := ((Below.refl _ wr).grown g2 (Nat.le_refl _) (by simp)).grown g3 g2.size (fun r e => by cases e; exact Nat.le_refl _); have d0 := q8.cell (i := 0) rfl; have d1 := q8.cell (i := 1) rfl; have d2 := q8.cell (i := 2) rfl; have d3 := q8.cell (i := 3) rfl; have d4 := q8.cell (i := 4) rfl; have d5 := q8.cell (i := 5) rfl; clear g2 g3 z2 z3 q2)
                                  | (refine wpList_run (w := w8) rfl (v := .pointer (some ⟨wr.heap.size, 0, none⟩)) (Held.y_field (S := fun _ => True) (k := 0) (s := 0) rfl rfl Tryd.underlying58 rfl (by kernel_rfl) rfl _ trivial) ?_)
                                  | (refine wpList_run (w := w8) rfl (v := .pointer (some ⟨wr.heap.size, 1, none⟩)) (Held.y_field (S := fun _ => True) (k := 1) (s := 0) rfl rfl Tryd.underlying58 rfl (by kernel_rfl) rfl _ trivial) ?_)
                                  | (refine wpList_run (w := w8) rfl (v := .pointer (some ⟨wr.heap.size, 2, none⟩)) (Held.y_field (S := fun _ => True) (k := 2) (s := 0) rfl rfl Tryd.underlying58 rfl (by kernel_rfl) rfl _ trivial) ?_)
                                  | (refine wpList_run (w := w8) rfl (v := .pointer (some ⟨wr.heap.size, 3, none⟩)) (Held.y_field (S := fun _ => True) (k := 3) (s := 0) rfl rfl Tryd.underlying58 rfl (by kernel_rfl) rfl _ trivial) ?_)
                                  | (refine wpList_run (w := w8) rfl (v := .pointer (some ⟨wr.heap.size, 4, none⟩)) (Held.y_field (S := fun _ => True) (k := 4) (s := 0) rfl rfl Tryd.underlying58 rfl (by kernel_rfl) rfl _ trivial) ?_)
                                  | (refine wpList_run (w := w8) rfl (v := .pointer (some ⟨wr.heap.size, 5, none⟩)) (Held.y_field (S := fun _ => True) (k := 5) (s := 0) rfl rfl Tryd.underlying58 rfl (by kernel_rfl) rfl _ trivial) ?_))
                                go_roundw
                                case rel => exact ⟨i + 1, by omega, by go_num, bw.trans (b8.mono bw.size), HNX⟩
                                case measure => simp [intOf]; omega
                          · have HNX := HG.out (by unfold mayO isReg; simp [h12]; omega)
                            clear HB HG
                            go_wp2_with (first
                              | (refine wpList_run (w := wr) rfl (v := .pointer (some ⟨b, off + i * 6, none⟩)) (Held.y_addr (S := fun _ => True) rfl rfl rfl (run_addr_of (P := Tryd.prog) 24 58 b off n c i 6 .i64 Tryd.underlying24 size_op hlt) _ trivial) ?_)
                              | (refine wpList_run (w := wr) rfl (v := .agg #[.int .i64 code, .int .i64 rd, .int .i64 ra, .int .i64 rb, .int .i64 rc, .int .i64 nn]) (y_load_range (S := fun W => W = wr) (n := 6) (cs := [.int .i64 code, .int .i64 rd, .int .i64 ra, .int .i64 rb, .int .i64 rc, .int .i64 nn]) rfl rfl Tryd.underlying58 rfl size_op rfl (fun W hW => by rw [hW]; exact hx) _ rfl) ?_)
                              | (refine wpList_alloc_blk (w := wr) rfl 58 rfl _ zero_op ?_; intro v2 q2 g2 z2)
                              | (refine wpList_store_blk (w := v2) rfl 58 _ _ rfl wr.heap.size 6 rfl 58 _ #[.int .i64 code, .int .i64 rd, .int .i64 ra, .int .i64 rb, .int .i64 rc, .int .i64 nn] rfl q2 size_op rfl rfl (by kernel_rfl) ?_; intro w8 q8 g3 z3; have b8 : Below wr.heap.size wr w8 := ((Below.refl _ wr).grown g2 (Nat.le_refl _) (by simp)).grown g3 g2.size (fun r e => by cases e; exact Nat.le_refl _); have d0 := q8.cell (i := 0) rfl; have d1 := q8.cell (i := 1) rfl; have d2 := q8.cell (i := 2) rfl; have d3 := q8.cell (i := 3) rfl; have d4 := q8.cell (i := 4) rfl; have d5 := q8.cell (i := 5) rfl; clear g2 g3 z2 z3 q2)
                              | (refine wpList_run (w := w8) rfl (v := .pointer (some ⟨wr.heap.size, 0, none⟩)) (Held.y_field (S := fun _ => True) (k := 0) (s := 0) rfl rfl Tryd.underlying58 rfl (by kernel_rfl) rfl _ trivial) ?_)
                              | (refine wpList_run (w := w8) rfl (v := .pointer (some ⟨wr.heap.size, 1, none⟩)) (Held.y_field (S := fun _ => True) (k := 1) (s := 0) rfl rfl Tryd.underlying58 rfl (by kernel_rfl) rfl _ trivial) ?_)
                              | (refine wpList_run (w := w8) rfl (v := .pointer (some ⟨wr.heap.size, 2, none⟩)) (Held.y_field (S := fun _ => True) (k := 2) (s := 0) rfl rfl Tryd.underlying58 rfl (by kernel_rfl) rfl _ trivial) ?_)
                              | (refine wpList_run (w := w8) rfl (v := .pointer (some ⟨wr.heap.size, 3, none⟩)) (Held.y_field (S := fun _ => True) (k := 3) (s := 0) rfl rfl Tryd.underlying58 rfl (by kernel_rfl) rfl _ trivial) ?_)
                              | (refine wpList_run (w := w8) rfl (v := .pointer (some ⟨wr.heap.size, 4, none⟩)) (Held.y_field (S := fun _ => True) (k := 4) (s := 0) rfl rfl Tryd.underlying58 rfl (by kernel_rfl) rfl _ trivial) ?_)
                              | (refine wpList_run (w := w8) rfl (v := .pointer (some ⟨wr.heap.size, 5, none⟩)) (Held.y_field (S := fun _ => True) (k := 5) (s := 0) rfl rfl Tryd.underlying58 rfl (by kernel_rfl) rfl _ trivial) ?_))
                            go_roundw
                            case rel => exact ⟨i + 1, by omega, by go_num, bw.trans (b8.mono bw.size), HNX⟩
                            case measure => simp [intOf]; omega
    · have hin : i = n := by omega
      subst hin
      by_cases h40 : (i : Int) ≤ 40
      · have HP := Lib.hid (show mayP xs k = true from mayP_all (by rw [HL.out]; omega) (fun j hj => HALL.out j (by rw [← HL.out]; exact hj)))
        go_wp2_with fail
        go_ret
        exact ⟨Mem.ret_bool HP.out.symm, bw⟩
      · have HP := Lib.hid (show mayP xs k = false by unfold mayP; rw [decide_eq_false (by rw [HL.out]; omega)]; rfl)
        go_wp2_with fail
        go_ret
        exact ⟨Mem.ret_bool HP.out.symm, bw⟩
end Go.Proofs.YtlinmcgmkpkpaaaDoor.Cn
