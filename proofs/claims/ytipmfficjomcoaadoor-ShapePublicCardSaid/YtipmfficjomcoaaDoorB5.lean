/-
  Package pipe's Blocks and package shape's jobOf, mapped, rounds, roundsOf, size, by their contracts.
-/
import Derived.Test.YtipmfficjomcoaaDoorB3
import Derived.Test.YtipmfficjomcoaaDoorB4
set_option linter.unusedVariables false
namespace Go.Proofs.YtipmfficjomcoaaDoor.Sh
open Go.RowKit Go.Shelf Mem Held Go.Proofs.YtipmfficjomcoaaDoor.Range Sl
attribute [local go_sem] Oper.semAt_some
attribute [local irreducible] wpList wpListIn Calls
section
variable {P : Program} {ops : Array Oper} {rest : List Oper} {o : Oper} {a : Act} {w : World} {Q : Exit → Act → World → Prop}
theorem wpList_fld0 (hw : Region.wanted o (yielded ops a.tmps) = true) {t : TypeId} {x : Operand} {b j k s : Nat} {fs : Array Field} (ho : o.op = .fieldAddr t x j) (hx : a.eval x = .pointer (some ⟨b, 0, none⟩)) (hu : P.underlying t = some (.struct fs)) (hk : (fs[j]?).map (·.offset) = some k) (hz : (fs[j]?).bind (fun f => (P.info? f.type).map (·.size)) = some (s + 1))
    (h : wpList P ops Q rest (a.put o.dst (.pointer (some ⟨b, k, none⟩))) w) : wpList P ops Q (o :: rest) a w :=
  Held.wpList_run hw (v := .pointer (some ⟨b, k, none⟩)) (by
    have := Held.y_field (P := P) (S := fun _ => True) (ρ := a.eval) (o := o) (b := b) (off := 0) (j := j) (k := k) (m := k) (s := s) ho hx hu hk hz (by omega) w trivial
    exact this) h
end
def inN (r k b wk : Int) : Nat := if Sp.rightB r k b wk = true then ((r + b - 1) / b).toNat else 0
def mpN (r k b wk : Int) : Nat := if Sp.rightB r k b wk = true then (k * ((r + b - 1) / b)).toNat else 0
def mN (r k b wk : Int) : Nat := if Sp.rightB r k b wk = true then (Bi.padV (k * ((r + b - 1) / b) + 1)).toNat else 0
def tN (r k b wk : Int) : Nat := Bi.tri (Bi.stg (mN r k b wk))
theorem right_says {r k b wk : Int} (h : Sp.rightB r k b wk = true) : (1 ≤ r ∧ r ≤ 64) ∧ (1 ≤ k ∧ k ≤ 4) ∧ (1 ≤ b ∧ b ≤ 8) ∧ (1 ≤ wk ∧ wk ≤ 4) ∧ (1 ≤ (r + b - 1) / b ∧ (r + b - 1) / b ≤ 64) ∧ (1 ≤ k * ((r + b - 1) / b) ∧ k * ((r + b - 1) / b) < 32) := by
  rw [Sp.rightB_of] at h
  simp only [Bool.and_eq_true, decide_eq_true_eq] at h
  obtain ⟨⟨⟨⟨h1, h2⟩, h3⟩, h4⟩, h5⟩ := h
  have h1 := Sp.inB_says h1
  have h2 := Sp.inB_says h2
  have h3 := Sp.inB_says h3
  have h4 := Sp.inB_says h4
  have e1 : 1 ≤ (r + b - 1) / b := by
    rw [Int.le_ediv_iff_mul_le (by omega)]
    omega
  have e2 : (r + b - 1) / b ≤ 64 := by
    have : (r + b - 1) / b < 65 := by
      rw [Int.ediv_lt_iff_lt_mul (by omega)]
      omega
    omega
  refine ⟨h1, h2, h3, h4, ⟨e1, e2⟩, ?_, h5⟩
  have := Int.mul_le_mul h2.1 e1 (by omega) (by omega)
  omega
theorem pad_says : ∀ p : Fin 32, 1 ≤ p.val → ∃ S, 1 ≤ S ∧ S ≤ 5 ∧ Bi.padV ((p.val : Int) + 1) = ((2 ^ S : Nat) : Int) ∧ p.val < 2 ^ S := by
  have : ∀ p : Fin 32, 1 ≤ p.val → 1 ≤ Bi.padS ((p.val : Int) + 1) ∧ Bi.padS ((p.val : Int) + 1) ≤ 5 ∧ (p.val : Int) < 2 ^ Bi.padS ((p.val : Int) + 1) := by decide +kernel
  intro p hp
  obtain ⟨k1, k2, k3⟩ := this p hp
  refine ⟨_, k1, k2, by unfold Bi.padV; exact Bi.two_nat _, ?_⟩
  rw [Bi.two_nat] at k3
  exact_mod_cast k3
theorem job_of {r k b wk : Int} (h0 : -9223372036854775808 ≤ k) (h1 : k ≤ 9223372036854775807) : JobP k (inN r k b wk) (mpN r k b wk) (mN r k b wk) (tN r k b wk) := by
  by_cases hR : Sp.rightB r k b wk = true
  · obtain ⟨_, ⟨hk1, hk4⟩, _, _, ⟨hi1, hi⟩, hq1, hq⟩ := right_says hR
    unfold tN inN mpN mN
    rw [if_pos hR, if_pos hR, if_pos hR]
    generalize (r + b - 1) / b = q at *
    obtain ⟨I, rfl⟩ : ∃ I : Nat, q = (I : Int) := ⟨q.toNat, by omega⟩
    obtain ⟨p, hp⟩ : ∃ p : Nat, k * (I : Int) = (p : Int) := ⟨(k * (I : Int)).toNat, by omega⟩
    have hIp : (I : Int) ≤ k * (I : Int) := by
      have := Int.mul_le_mul_of_nonneg_right hk1 (show (0 : Int) ≤ I by omega)
      omega
    rw [hp] at hq1 hq hIp ⊢
    obtain ⟨S, s1, s5, e, hlt⟩ := pad_says ⟨p, by omega⟩ (by show 1 ≤ p; omega)
    have e : Bi.padV ((p : Int) + 1) = ((2 ^ S : Nat) : Int) := e
    have hlt : p < 2 ^ S := hlt
    have h32 : 2 ^ S ≤ 32 := Nat.pow_le_pow_right (n := 2) (i := S) (by omega) s5
    rw [e]
    simp only [Int.toNat_natCast]
    exact ⟨by omega, by omega, hp, by omega, h32, by omega, rfl, .inr ⟨S, s1, s5, rfl⟩⟩
  · unfold tN inN mpN mN
    rw [if_neg hR, if_neg hR, if_neg hR]
    exact ⟨h0, h1, by simp, Nat.le_refl _, by omega, Nat.le_refl _, rfl, .inl rfl⟩
set_option maxRecDepth 100000 in
set_option maxHeartbeats 4000000 in
theorem blocks_any (r k b wk : Int) (w : World) :
    Calls Tryd.prog 53 #[.agg #[.int .i64 r, .int .i64 k, .int .i64 b, .int .i64 wk]] w fun e w' => e = .returned (.tuple #[.int .i64 (inN r k b wk : Int), .int .i64 (mN r k b wk : Int)]) ∧ Below w.heap.size w w' := by
  by_cases hR : Sp.rightB r k b wk = true
  · have HI := Lib.hid (show (inN r k b wk : Int) = (r + b - 1) / b by
      obtain ⟨_, _, _, _, h, _⟩ := right_says hR
      rw [inN, if_pos hR]; omega)
    have HM := Lib.hid (show (mN r k b wk : Int) = Bi.padV (k * ((r + b - 1) / b) + 1) by
      rw [mN, if_pos hR]; unfold Bi.padV; have := Bi.two_pos (Bi.padS (k * ((r + b - 1) / b) + 1)); omega)
    obtain ⟨⟨hr1, hr⟩, ⟨hk1, hk⟩, ⟨hb1, hb⟩, ⟨hw1, hw4⟩, ⟨hi1, hi⟩, hq1, hq⟩ := right_says hR
    have HR := Lib.hid (show Sp.rightE r k b wk = 0 by rw [Sp.rightE, if_pos hR])
    have e1 : IntKind.i64.wrap (r + b) = r + b := by rw [IntKind.wrap_i64]; omega
    have e2 : IntKind.i64.wrap (r + b - 1) = r + b - 1 := by rw [IntKind.wrap_i64]; omega
    have hb0 : ¬ b = 0 := by omega
    have hb0' : b ≠ 0 := by omega
    have e3 : Int.tdiv (r + b - 1) b = (r + b - 1) / b := Int.tdiv_eq_ediv_of_nonneg (by omega)
    have e4 : IntKind.i64.wrap ((r + b - 1) / b) = (r + b - 1) / b := by rw [IntKind.wrap_i64]; omega
    have e5 : IntKind.i64.wrap (k * ((r + b - 1) / b)) = k * ((r + b - 1) / b) := by rw [IntKind.wrap_i64]; omega
    have e6 : IntKind.i64.wrap (k * ((r + b - 1) / b) + 1) = k * ((r + b - 1) / b) + 1 := by rw [IntKind.wrap_i64]; omega
    have HP := fun W => Bi.padded_any (k * ((r + b - 1) / b) + 1) W (by omega) (by omega)
    rw [HI.out, HM.out]
    clear HI HM
    generalize Bi.padV (k * ((r + b - 1) / b) + 1) = M at *
    generalize (r + b - 1) / b = q at *
    clear hR hq1 hq hi1 hi hw1 hw4
    go_enter Tryd.func53, Tryd.ntmps53
    go_wp2_with (first
      | (refine wpList_box_blk (w := w) rfl 23 _ rfl _ rfl ?_; intro u1 qu1 gu1 zu1; have b1 : Below w.heap.size w u1 := (Below.refl _ w).grown gu1 (Nat.le_refl _) (by simp); clear gu1 zu1)
      | (refine wpList_load_blk (w := u1) rfl 23 _ rfl (w.heap.size) 4 rfl 23 _ qu1 _ Tryd.underlying23 rfl (by kernel_rfl) rfl ?_))
    refine (Sp.right_any r k b wk u1).mono ?_
    rintro e w2 ⟨rfl, b2⟩
    rw [HR.out]
    have q1 := qu1.after b2
    have b2 := b1.trans (b2.mono b1.size)
    have hc0 := q1.cell (i := 0) rfl
    have hc1 := q1.cell (i := 1) rfl
    have hc2 := q1.cell (i := 2) rfl
    clear b1 q1 qu1
    go_wp2_with (first
      | (refine wpList_fld0 (w := w2) rfl rfl rfl Tryd.underlying23 rfl (by kernel_rfl) ?_))
    refine (HP w2).mono ?_
    rintro e w3 ⟨rfl, rfl⟩
    go_wp2_with fail
    go_ret2
    exact ⟨rfl, b2⟩
  · have HR := Lib.hid (show Sp.rightE r k b wk = 1 by rw [Sp.rightE, if_neg hR])
    have HI := Lib.hid (show inN r k b wk = 0 by rw [inN, if_neg hR])
    have HM := Lib.hid (show mN r k b wk = 0 by rw [mN, if_neg hR])
    rw [HI.out, HM.out]
    clear HI HM hR
    go_enter Tryd.func53, Tryd.ntmps53
    go_wp2_with (first
      | (refine wpList_box_blk (w := w) rfl 23 _ rfl _ rfl ?_; intro u1 qu1 gu1 zu1; have b1 : Below w.heap.size w u1 := (Below.refl _ w).grown gu1 (Nat.le_refl _) (by simp); clear gu1 zu1)
      | (refine wpList_load_blk (w := u1) rfl 23 _ rfl (w.heap.size) 4 rfl 23 _ qu1 _ Tryd.underlying23 rfl (by kernel_rfl) rfl ?_))
    refine (Sp.right_any r k b wk u1).mono ?_
    rintro e w2 ⟨rfl, b2⟩
    rw [HR.out]
    have b2 := b1.trans (b2.mono b1.size)
    clear b1 qu1
    go_wp2_with fail
    go_ret2
    exact ⟨rfl, b2⟩
set_option maxRecDepth 100000 in
set_option maxHeartbeats 4000000 in
theorem jobOf_any (r k b wk : Int) (w : World) :
    Calls Tryd.prog 33 #[.agg #[.int .i64 r, .int .i64 k, .int .i64 b, .int .i64 wk]] w fun e w' => e = .returned (.agg #[.int .i64 k, .int .i64 (inN r k b wk : Int), .int .i64 (mN r k b wk : Int)]) ∧ Below w.heap.size w w' := by
  have HB := fun W => blocks_any r k b wk W
  generalize inN r k b wk = I at *
  generalize mN r k b wk = M at *
  go_enter Tryd.func33, Tryd.ntmps33
  go_wp2_with (first
    | (refine wpList_box_blk (w := w) rfl 23 _ rfl _ rfl ?_; intro u1 qu1 gu1 zu1)
    | (refine wpList_alloc_blk (w := u1) rfl 62 rfl #[.int .i64 0, .int .i64 0, .int .i64 0] (by kernel_rfl) ?_; intro u2 qu2 gu2 zu2; have q1 := qu1.grown gu2 (by simp); have b2 : Below w.heap.size w u2 := ((Below.refl _ w).grown gu1 (Nat.le_refl _) (by simp)).grown gu2 gu1.size (by simp); have l1 : w.heap.size < u1.heap.size := qu1.lt)
    | (refine wpList_load_blk (w := u2) rfl 23 _ rfl (w.heap.size) 4 rfl 23 _ q1 _ Tryd.underlying23 rfl (by kernel_rfl) rfl ?_))
  refine (HB u2).mono ?_
  rintro e w3 ⟨rfl, b3⟩
  have q1 := q1.after b3
  have q2 := qu2.after b3
  have b3 := b2.trans (b3.mono b2.size)
  have hc1 := q1.cell (i := 1) rfl
  generalize u1.heap.size = gj at *
  clear gu1 gu2 zu1 zu2 qu1 qu2 b2 HB
  go_wp2_with (first
    | (refine wpList_fld0 (w := w3) rfl rfl rfl Tryd.underlying23 rfl (by kernel_rfl) ?_)
    | (refine wpList_build_blk rfl 62 #[_, _, _] rfl #[.int .i64 k, .int .i64 (I : Int), .int .i64 (M : Int)] (by kernel_rfl) ?_)
    | (refine wpList_store_blk (w := w3) rfl 62 _ _ rfl (gj) 3 rfl 62 _ #[.int .i64 k, .int .i64 (I : Int), .int .i64 (M : Int)] rfl q2 (by kernel_rfl) rfl rfl (by kernel_rfl) ?_; intro u4 qu4 gu4 zu4))
  exact bodyPost_ret (results_blk rfl _ _ gj 3 _ _ rfl qu4 _ Tryd.underlying62 rfl (by kernel_rfl) rfl) rfl ⟨rfl, b3.grown gu4 b3.size (fun r e => by cases e; omega)⟩
theorem mul_i64 {K : Int} {I mp M T : Nat} (h : JobP K I mp M T) : IntKind.i64.wrap (K * (I : Int)) = (mp : Int) := by
  rw [h.e, IntKind.wrap_i64]
  have := h.le
  have := h.m32
  omega
set_option maxRecDepth 100000 in
set_option maxHeartbeats 4000000 in
theorem mapped_any (K : Int) (I mp M T : Nat) (h : JobP K I mp M T) (w : World) :
    Calls Tryd.prog 66 #[.agg #[.int .i64 K, .int .i64 (I : Int), .int .i64 (M : Int)]] w fun e w' => e = .returned (.int .i64 (mp : Int)) ∧ Below w.heap.size w w' := by
  have HW := mul_i64 h
  clear h
  go_enter Tryd.func66, Tryd.ntmps66
  go_wp2_with (first
    | (refine wpList_box_blk (w := w) rfl 62 _ rfl _ rfl ?_; intro u1 qu1 gu1 zu1; have b1 : Below w.heap.size w u1 := (Below.refl _ w).grown gu1 (Nat.le_refl _) (by simp); have hc0 := qu1.cell (i := 0) rfl; have hc1 := qu1.cell (i := 1) rfl; clear gu1 zu1)
    | (refine wpList_fld0 (w := u1) rfl rfl rfl Tryd.underlying62 rfl (by kernel_rfl) ?_)
    | (refine Held.wpList_run (w := u1) rfl (v := .int .i64 (mp : Int)) (Held.y_int (S := fun _ => True) rfl rfl rfl (Held.run_mul 3 .i64 HW) _ trivial) ?_))
  go_ret
  exact ⟨rfl, b1⟩
set_option maxRecDepth 100000 in
set_option maxHeartbeats 4000000 in
theorem nrounds_any (K : Int) (I mp M T : Nat) (h : JobP K I mp M T) (w : World) (hT : Bi.TzT w) :
    Calls Tryd.prog 50 #[.agg #[.int .i64 K, .int .i64 (I : Int), .int .i64 (M : Int)]] w fun e w' => e = .returned (.int .i64 (T : Int)) ∧ Below w.heap.size w w' := by
  have HR := fun W hT => Bi.rounds_any (M : Int) W (by omega) (by have := h.m32; omega) hT
  rw [h.T] at HR
  clear h
  go_enter Tryd.func50, Tryd.ntmps50
  go_wp2_with (first
    | (refine wpList_box_blk (w := w) rfl 62 _ rfl _ rfl ?_; intro u1 qu1 gu1 zu1; have b1 : Below w.heap.size w u1 := (Below.refl _ w).grown gu1 (Nat.le_refl _) (by simp); have hc2 := qu1.cell (i := 2) rfl; clear gu1 zu1)
    | (refine wpList_fld0 (w := u1) rfl rfl rfl Tryd.underlying62 rfl (by kernel_rfl) ?_))
  refine (HR u1 (hT.below b1 hT.lt)).mono ?_
  rintro e w2 ⟨rfl, rfl⟩
  go_wp2_with fail
  go_ret
  exact ⟨rfl, b1⟩
set_option maxRecDepth 100000 in
set_option maxHeartbeats 4000000 in
theorem roundsOf_any (K : Int) (I mp M T c : Nat) (h : JobP K I mp M T) (h1 : 1 ≤ c) (h5 : c ≤ 5) (w : World) (hT : Bi.TzT w) :
    Calls Tryd.prog 55 #[.agg #[.int .i64 K, .int .i64 (I : Int), .int .i64 (M : Int)], .int .i64 (c : Int)] w fun e w' => e = .returned (.tuple #[.int .i64 (frK c : Int), .int .i64 ((if c = 3 ∨ c = 5 then T else 0 : Nat) : Int)]) ∧ Below w.heap.size w w' := by
  have HR := fun W hT => nrounds_any K I mp M T h W hT
  clear h
  have hc : c = 1 ∨ c = 2 ∨ c = 3 ∨ c = 4 ∨ c = 5 := by omega
  go_enter Tryd.func55, Tryd.ntmps55
  rcases hc with rfl | rfl | rfl | rfl | rfl
  case inl | inr.inl | inr.inr.inr.inl =>
    go_wp2_with (first
      | (refine wpList_box_blk (w := w) rfl 62 _ rfl _ rfl ?_; intro u1 qu1 gu1 zu1; have b1 : Below w.heap.size w u1 := (Below.refl _ w).grown gu1 (Nat.le_refl _) (by simp); clear gu1 zu1))
    go_ret2
    exact ⟨rfl, b1⟩
  all_goals
    go_wp2_with (first
      | (refine wpList_box_blk (w := w) rfl 62 _ rfl _ rfl ?_; intro u1 qu1 gu1 zu1; have b1 : Below w.heap.size w u1 := (Below.refl _ w).grown gu1 (Nat.le_refl _) (by simp); clear gu1 zu1)
      | (refine wpList_load_blk (w := u1) rfl 62 _ rfl (w.heap.size) 3 rfl 62 _ qu1 _ Tryd.underlying62 rfl (by kernel_rfl) rfl ?_))
    refine (HR u1 (hT.below b1 hT.lt)).mono ?_
    rintro e w2 ⟨rfl, b2⟩
    have b2 := b1.trans (b2.mono b1.size)
    go_wp2_with fail
    go_ret2
    exact ⟨rfl, b2⟩
end Go.Proofs.YtipmfficjomcoaaDoor.Sh
