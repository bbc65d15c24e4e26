/-
  The document's own answers for package bitonic: which stage and step a round is, which pairs it has, and which of them are up, by their contracts.
  The document's own answer for package bitonic: the first places of a round's pairs, and how far the second ones are, by its contract.
  What the rows' condition on math/bits' tables gives: the table of 64 numbers holds what the program's text lays.
  A round's pairs as plain lists: how many they are, which places they have, each in one pair; what the rounds, one behind the other, make of a list: no program here.
-/
import Derived.Test.YtagcnbcmegdgmaaDoorB4
import Derived.Test.YtagcnbcmegdgmaaDoorB2
import Derived.Lib.LaidTab
import Derived.LaidMore
import Derived.Stop.Joined
import Derived.Stop.LaidErr
set_option linter.unusedVariables false
namespace Go.Proofs.YtagcnbcmegdgmaaDoor.Bi
open Go.RowKit Go.Shelf Go.Proofs.YtagcnbcmegdgmaaDoor Mem Held Help Go.Proofs.YtagcnbcmegdgmaaDoor.Range
attribute [local go_sem] Oper.semAt_some
attribute [local irreducible] wpList wpListIn Calls
set_option maxRecDepth 100000 in
set_option maxHeartbeats 4000000 in
theorem rof_any (n r : Int) (s t : Nat) (ok : Bool) (w : World) (h0 : -9223372036854775808 ≤ n) (h1 : n ≤ 9223372036854775807) (hF : Found (stg n) r s t ok) :
    Calls Tryd.prog 24 #[.int .i64 n, .int .i64 r] w fun e w' => e = .returned (.tuple #[.int .i64 (s : Int), .int .i64 (t : Int)]) ∧ w = w' := by
  have H := rrounds_any n w h0 h1
  have h16 := stg_le n
  have htl := tri_le h16
  generalize stg n = S at *
  rcases hF with ⟨hok, ha⟩ | ⟨hok, rfl, rfl, hno⟩
  · obtain ⟨hr0, hr1⟩ := ha.lt
    obtain ⟨t1, ts, sS, he⟩ := ha
    obtain ⟨q0, rfl⟩ : ∃ q, s = q + 1 := ⟨s - 1, by omega⟩
    simp only [Nat.add_sub_cancel] at he
    have HE := Lib.hid he
    have HM := Lib.hid (fun a b (h : a ≤ b) => tri_mono h)
    have HTS := Lib.hid tri_succ
    have hnr : ¬ (tri S : Int) ≤ r := by omega
    generalize tri S = T at *
    clear he
    go_enter Tryd.func24, Tryd.ntmps24
    go_wp2_with fail
    refine H.mono ?_
    rintro e w1 ⟨rfl, rfl⟩
    go_wp2_with fail
    go_loopw [1, 6] (fun rv sv wr => ∃ q u : Nat, rv = .int .i64 (u : Int) ∧ Hid (r = ((tri q + u : Nat) : Int)) ∧ sv = .int .i64 ((q : Int) + 1) ∧ q ≤ q0 ∧ u ≤ 200 ∧ w = wr) (fun rv _ _ => (intOf rv).toNat)
    case atStart => exact ⟨0, r.toNat, by rw [show ((r.toNat : Nat) : Int) = r by omega], Lib.hid (by rw [tri_zero]; omega), rfl, by omega, by omega, rfl⟩
    case round =>
      obtain ⟨q, u, rfl, hu, rfl, hq, hu2, rfl⟩ := hrel
      by_cases hge : q + 1 ≤ u
      · have hge' : (q : Int) + 1 ≤ (u : Int) := by omega
        have hq1 : q + 1 ≤ q0 := by
          rcases Nat.lt_or_ge q q0 with c | c
          · omega
          · have e1 : q = q0 := by omega
            have e2 := HE.out
            have e3 := hu.out
            rw [e1] at e3 hge
            omega
        go_wp2_with fail
        go_roundw
        case rel => exact ⟨q + 1, u - (q + 1), by go_num, Lib.hid (by rw [hu.out, HTS.out]; omega), by go_num, hq1, by omega, trivial⟩
        case measure => simp [intOf]; omega
      · have hge' : ¬ (q : Int) + 1 ≤ (u : Int) := by omega
        have hqq : q = q0 := by
          rcases Nat.lt_or_ge q q0 with c | c
          · have e1 := HM.out (q + 1) q0 (by omega)
            rw [HTS.out] at e1
            have e2 := HE.out
            have e3 := hu.out
            omega
          · omega
        have htt : (q : Int) + 1 - (u : Int) = (t : Int) := by
          have e2 := HE.out
          have e3 := hu.out
          rw [hqq] at e3 ⊢
          omega
        subst hqq
        have HT := Lib.hid htt
        clear htt
        go_wp2_with fail
        go_ret2
        refine ⟨?_, rfl⟩
        simp [HT.out]
  · by_cases hr : r < 0
    · go_enter Tryd.func24, Tryd.ntmps24
      go_wp2_with fail
      go_ret2
      exact ⟨rfl, rfl⟩
    · have hnr : (tri S : Int) ≤ r := by omega
      generalize tri S = T at *
      clear hno
      go_enter Tryd.func24, Tryd.ntmps24
      go_wp2_with fail
      refine H.mono ?_
      rintro e w1 ⟨rfl, rfl⟩
      go_wp2_with fail
      go_ret2
      exact ⟨rfl, rfl⟩
section
variable {P : Program} {S : World → Prop} {ρ : Operand → Value} {o : Oper} {t ty : TypeId} {x y : Operand} {k k' : IntKind} {r : Int}
theorem y_shl (a n : Int) (ho : o.op = .binOp .shl t x y ty) (hx : ρ x = .int k a) (hy : ρ y = .int k' n) (hr : ∀ w : World, (binOp .shl t (.int k a) (.int k' n)).run P w = .ok (.int k r) w) : ∀ w, S w → (execOp ρ o).run P w = .ok (.value (.int k r)) w :=
  Held.y_bin ho hx hy (fun w => by simp [eqGuard]) hr
theorem y_quo (a b : Int) (ho : o.op = .binOp .quo t x y ty) (hx : ρ x = .int k a) (hy : ρ y = .int k b) (hr : ∀ w : World, (binOp .quo t (.int k a) (.int k b)).run P w = .ok (.int k r) w) : ∀ w, S w → (execOp ρ o).run P w = .ok (.value (.int k r)) w := Held.y_int ho hx hy hr
theorem y_rem (a b : Int) (ho : o.op = .binOp .rem t x y ty) (hx : ρ x = .int k a) (hy : ρ y = .int k b) (hr : ∀ w : World, (binOp .rem t (.int k a) (.int k b)).run P w = .ok (.int k r) w) : ∀ w, S w → (execOp ρ o).run P w = .ok (.value (.int k r)) w := Held.y_int ho hx hy hr
theorem y_sub (a b : Int) (ho : o.op = .binOp .sub t x y ty) (hx : ρ x = .int k a) (hy : ρ y = .int k b) (hr : k.wrap (a - b) = r) : ∀ w, S w → (execOp ρ o).run P w = .ok (.value (.int k r)) w := Held.y_int ho hx hy (Held.run_sub t k hr)
end
theorem quo_of {a d : Int} (ha : 0 ≤ a) (hd : 1 ≤ d) (ha' : a < 9223372036854775808) : IntKind.i64.wrap (a.tdiv d) = a / d ∧ 0 ≤ a / d := by
  have h0 : 0 ≤ a / d := Int.ediv_nonneg ha (by omega)
  have h1 := Int.ediv_le_self d ha
  rw [Int.tdiv_eq_ediv_of_nonneg ha, IntKind.wrap_i64]
  omega
theorem rem_of {a : Int} (ha : 0 ≤ a) : a.tmod 2 = a % 2 := Int.tmod_eq_emod_of_nonneg ha
set_option maxRecDepth 100000 in
set_option maxHeartbeats 4000000 in
theorem rup_any (n r a : Int) (s t : Nat) (ok : Bool) (w : World) (h0 : -9223372036854775808 ≤ n) (h1 : n ≤ 9223372036854775807) (ha0 : -9223372036854775808 ≤ a) (ha1 : a ≤ 9223372036854775807) (hF : Found (stg n) r s t ok) :
    Calls Tryd.prog 18 #[.int .i64 n, .int .i64 r, .int .i64 a] w fun e w' => e = .returned (.bool (upV n s t ok a)) ∧ w = w' := by
  have H := rof_any n r s t ok w h0 h1 hF
  have ht := hF.t1 (stg_le n)
  have hz : ok = false → s = 0 := fun h => by
    rcases hF with ⟨h2, _⟩ | ⟨_, h2, _⟩
    · rw [h] at h2; cases h2
    · exact h2
  clear hF
  cases ok with
  | false =>
    have hv : upV n s t false a = false := by simp [upV]
    rw [hv]
    obtain rfl := hz rfl
    go_enter Tryd.func18, Tryd.ntmps18
    go_wp2_with fail
    refine H.mono ?_
    rintro e w1 ⟨rfl, rfl⟩
    go_wp2_with fail
    go_ret
    exact ⟨rfl, rfl⟩
  | true =>
    obtain ⟨t1, t2, t3⟩ := ht rfl
    clear hz ht
    have hs0 : ¬ (s : Int) = 0 := by omega
    by_cases c0 : a < 0
    · have hv : upV n s t true a = false := by simp [upV]; intro h; omega
      rw [hv]
      go_enter Tryd.func18, Tryd.ntmps18
      go_wp2_with fail
      refine H.mono ?_
      rintro e w1 ⟨rfl, rfl⟩
      go_wp2_with fail
      go_ret
      exact ⟨rfl, rfl⟩
    by_cases c1 : n ≤ a
    · have hv : upV n s t true a = false := by simp [upV]; intro h h'; omega
      rw [hv]
      go_enter Tryd.func18, Tryd.ntmps18
      go_wp2_with fail
      refine H.mono ?_
      rintro e w1 ⟨rfl, rfl⟩
      go_wp2_with fail
      go_ret
      exact ⟨rfl, rfl⟩
    have hv : upV n s t true a = (decide (a / 2 ^ (t - 1) % 2 = 0) && decide (a / 2 ^ s % 2 = 0)) := by
      have e1 : decide (0 ≤ a) = true := by simp; omega
      have e2 : decide (a < n) = true := by simp; omega
      unfold upV
      rw [e1, e2]
      simp
    have sh := fun (k : Nat) (hk : k ≤ 16) (W : World) => show (binOp .shl 3 (.int .i64 1) (.int .u64 (k : Int))).run Tryd.prog W = .ok (.int .i64 (2 ^ k)) W by
      have h := Rc.run_shl_ (P := Tryd.prog) 3 .i64 .u64 (a := 1) k (by show k ≤ 64; omega) W
      have p1 := two_pos k
      have p2 := two_16 hk
      rw [show (1 : Int) * 2 ^ k = 2 ^ k by omega, show IntKind.i64.wrap (2 ^ k) = 2 ^ k by rw [IntKind.wrap_i64]; omega] at h
      exact h
    have s1 := sh (t - 1) (by omega)
    have s2 := sh s t3
    have p1 := two_pos (t - 1)
    have p2 := two_pos s
    have hsub : IntKind.i64.wrap ((t : Int) - 1) = ((t - 1 : Nat) : Int) := by rw [IntKind.wrap_i64]; omega
    have hc1 : IntKind.u64.wrap ((t - 1 : Nat) : Int) = ((t - 1 : Nat) : Int) := by rw [IntKind.wrap_u64]; omega
    have hc2 : IntKind.u64.wrap (s : Int) = (s : Int) := by rw [IntKind.wrap_u64]; omega
    obtain ⟨qa, qb⟩ := quo_of (show 0 ≤ a by omega) p1 (by omega)
    obtain ⟨qc, qd⟩ := quo_of (show 0 ≤ a by omega) p2 (by omega)
    obtain ⟨d1, hd1⟩ : ∃ d : Int, 2 ^ (t - 1) = d := ⟨_, rfl⟩
    obtain ⟨d2, hd2⟩ : ∃ d : Int, 2 ^ s = d := ⟨_, rfl⟩
    rw [hd1] at s1 p1 qa qb hv
    rw [hd2] at s2 p2 qc qd hv
    have ra := rem_of qb
    have rb := rem_of qd
    generalize a / d1 = q1 at *
    generalize a / d2 = q2 at *
    generalize hr1 : q1 % 2 = r1 at *
    generalize hr2 : q2 % 2 = r2 at *
    have hq1 := fun W => Held.run_quo (P := Tryd.prog) 3 .i64 (a := a) (b := d1) (r := q1) (by omega) qa W
    have hq2 := fun W => Held.run_quo (P := Tryd.prog) 3 .i64 (a := a) (b := d2) (r := q2) (by omega) qc W
    have hm1 := fun W => Held.run_rem (P := Tryd.prog) 3 .i64 (a := q1) (b := 2) (r := r1) (by omega) ra W
    have hm2 := fun W => Held.run_rem (P := Tryd.prog) 3 .i64 (a := q2) (b := 2) (r := r2) (by omega) rb W
    have hb0 : ((s : Int) == 0) = false := by simp; omega
    have hb1 : decide (a < 0) = false := by simp; omega
    have hb2 : decide (n ≤ a) = false := by simp; omega
    rw [hv]
    clear hr1 hr2 qa qb qc qd ra rb hd1 hd2 hv sh
    by_cases hz : r1 = 0
    · have hzd : decide (r1 = 0) = true := by simp [hz]
      have hne : (r1 != 0) = false := by simp [hz]
      rw [hzd, Bool.true_and]
      have HZ := Lib.hid hz
      clear hz hzd
      go_enter Tryd.func18, Tryd.ntmps18
      go_wp2_with fail
      refine H.mono ?_
      rintro e w1 ⟨rfl, rfl⟩
      go_wp2_with (first
        | (refine Held.wpList_run (w := w) rfl (v := .int .i64 ((t - 1 : Nat) : Int)) (y_sub (S := fun _ => True) (t : Int) 1 rfl rfl rfl hsub _ trivial) ?_; simp only [Act.put, Z1, Z2, Z3])
        | (refine Held.wpList_run (w := w) rfl (v := .int .u64 ((t - 1 : Nat) : Int)) (Held.y_convert (S := fun _ => True) rfl rfl (by kernel_rfl) Tryd.underlying34 hc1 _ trivial) ?_; simp only [Act.put, Z1, Z2, Z3])
        | (refine Held.wpList_run (w := w) rfl (v := .int .u64 (s : Int)) (Held.y_convert (S := fun _ => True) rfl rfl (by kernel_rfl) Tryd.underlying34 hc2 _ trivial) ?_; simp only [Act.put, Z1, Z2, Z3])
        | (refine Held.wpList_run (w := w) rfl (v := .int .i64 d1) (y_shl (S := fun _ => True) 1 ((t - 1 : Nat) : Int) rfl rfl rfl s1 _ trivial) ?_; simp only [Act.put, Z1, Z2, Z3])
        | (refine Held.wpList_run (w := w) rfl (v := .int .i64 d2) (y_shl (S := fun _ => True) 1 (s : Int) rfl rfl rfl s2 _ trivial) ?_; simp only [Act.put, Z1, Z2, Z3])
        | (refine Held.wpList_run (w := w) rfl (v := .int .i64 q1) (y_quo (S := fun _ => True) a d1 rfl rfl rfl hq1 _ trivial) ?_; simp only [Act.put, Z1, Z2, Z3])
        | (refine Held.wpList_run (w := w) rfl (v := .int .i64 q2) (y_quo (S := fun _ => True) a d2 rfl rfl rfl hq2 _ trivial) ?_; simp only [Act.put, Z1, Z2, Z3])
        | (refine Held.wpList_run (w := w) rfl (v := .int .i64 r1) (y_rem (S := fun _ => True) q1 2 rfl rfl rfl hm1 _ trivial) ?_; simp only [Act.put, Z1, Z2, Z3])
        | (refine Held.wpList_run (w := w) rfl (v := .int .i64 r2) (y_rem (S := fun _ => True) q2 2 rfl rfl rfl hm2 _ trivial) ?_; simp only [Act.put, Z1, Z2, Z3]))
      go_ret
      exact ⟨Mem.ret_bool rfl, rfl⟩
    · have hzd : decide (r1 = 0) = false := by simp [hz]
      have hne : (r1 != 0) = true := by simp [hz]
      rw [hzd, Bool.false_and]
      clear hzd
      go_enter Tryd.func18, Tryd.ntmps18
      go_wp2_with fail
      refine H.mono ?_
      rintro e w1 ⟨rfl, rfl⟩
      go_wp2_with (first
        | (refine Held.wpList_run (w := w) rfl (v := .int .i64 ((t - 1 : Nat) : Int)) (y_sub (S := fun _ => True) (t : Int) 1 rfl rfl rfl hsub _ trivial) ?_; simp only [Act.put, Z1, Z2, Z3])
        | (refine Held.wpList_run (w := w) rfl (v := .int .u64 ((t - 1 : Nat) : Int)) (Held.y_convert (S := fun _ => True) rfl rfl (by kernel_rfl) Tryd.underlying34 hc1 _ trivial) ?_; simp only [Act.put, Z1, Z2, Z3])
        | (refine Held.wpList_run (w := w) rfl (v := .int .i64 d1) (y_shl (S := fun _ => True) 1 ((t - 1 : Nat) : Int) rfl rfl rfl s1 _ trivial) ?_; simp only [Act.put, Z1, Z2, Z3])
        | (refine Held.wpList_run (w := w) rfl (v := .int .i64 q1) (y_quo (S := fun _ => True) a d1 rfl rfl rfl hq1 _ trivial) ?_; simp only [Act.put, Z1, Z2, Z3])
        | (refine Held.wpList_run (w := w) rfl (v := .int .i64 r1) (y_rem (S := fun _ => True) q1 2 rfl rfl rfl hm1 _ trivial) ?_; simp only [Act.put, Z1, Z2, Z3]))
      go_ret
      exact ⟨rfl, rfl⟩
end Go.Proofs.YtagcnbcmegdgmaaDoor.Bi
namespace Go.Proofs.YtagcnbcmegdgmaaDoor.Bi
open Go.RowKit Go.Shelf Go.Proofs.YtagcnbcmegdgmaaDoor Mem Held Help Go.Proofs.YtagcnbcmegdgmaaDoor.Range
attribute [local go_sem] Oper.semAt_some
attribute [local irreducible] wpList wpListIn Calls
set_option maxRecDepth 100000 in
set_option maxHeartbeats 4000000 in
theorem rround_any (n r : Int) (s t : Nat) (ok : Bool) (w : World) (h0 : -9223372036854775808 ≤ n) (h1 : n ≤ 9223372036854775807) (hF : Found (stg n) r s t ok) :
    Calls Tryd.prog 10 #[.int .i64 n, .int .i64 r] w fun e w' => ∃ A c, e = .returned (.tuple #[.slice A (pairsOf n t ok).length c, .int .i64 (if ok then 2 ^ (t - 1) else 0)]) ∧ Ints w' .i64 w'.heap.size A (pairsOf n t ok).length (xsOf (pairsOf n t ok)) ∧ Below w.heap.size w w' := by
  have H := rof_any n r s t ok w h0 h1 hF
  have hI := hF.is
  have hz : ok = false → s = 0 := fun h => by
    rcases hF with ⟨h2, _⟩ | ⟨_, h2, _⟩
    · rw [h] at h2; cases h2
    · exact h2
  clear hF h0 h1
  cases ok with
  | false =>
    obtain rfl := hz rfl
    have hp : pairsOf n t false = [] := rfl
    rw [hp]
    go_enter Tryd.func10, Tryd.ntmps10
    go_wp2_with fail
    refine H.mono ?_
    rintro e w1 ⟨rfl, rfl⟩
    go_wp2_with fail
    go_ret2
    exact ⟨none, ⟨0, rfl⟩, Ints.nil _ _ _ _, Below.refl _ _⟩
  | true =>
    obtain ⟨hn, t1, t2, t3, t4⟩ := hI rfl
    have hd := two_nat (t - 1)
    have hd1 := two_pos (t - 1)
    have hd2 := two_16 (show t - 1 ≤ 16 by omega)
    obtain ⟨M, hM⟩ : ∃ M : Nat, 2 ^ stg n = M := ⟨_, rfl⟩
    have hM16 : M ≤ 65536 := by rw [← hM]; exact Nat.pow_le_pow_right (by omega) t4
    rw [hM] at hn
    obtain ⟨dN, hdN⟩ : ∃ dN : Nat, 2 ^ (t - 1) = dN := ⟨_, rfl⟩
    have HP := Lib.hid (show pairsOf n t true = Net.firsts dN M by unfold pairsOf; rw [if_pos rfl, hdN, hn]; rfl)
    rw [hdN] at hd
    have hsh := fun W : World => Rc.run_shl_ (P := Tryd.prog) 3 .i64 .u64 (a := 1) (t - 1) (by show t - 1 ≤ 64; omega) W
    rw [show (1 : Int) * 2 ^ (t - 1) = 2 ^ (t - 1) by omega, hd] at hsh
    rw [hd] at hd1 hd2
    rw [show IntKind.i64.wrap (dN : Int) = (dN : Int) by rw [IntKind.wrap_i64]; omega] at hsh
    have hsub : IntKind.i64.wrap ((t : Int) - 1) = ((t - 1 : Nat) : Int) := by rw [IntKind.wrap_i64]; omega
    have hc1 : IntKind.u64.wrap ((t - 1 : Nat) : Int) = ((t - 1 : Nat) : Int) := by rw [IntKind.wrap_u64]; omega
    have hs0 : ¬ (s : Int) = 0 := by omega
    have HFS := Lib.hid (fun k => show xsOf (Net.firsts dN (k + 1)) = xsOf (Net.firsts dN k) ++ (if k / dN % 2 = 0 then [(k : Int)] else []) by rw [Net.firsts_succ]; simp only [xsOf, List.map_append]; split <;> simp)
    have HFL := Lib.hid (fun k => show (xsOf (Net.firsts dN k)).length ≤ k by simp only [xsOf, List.length_map]; exact firsts_length_le dN k)
    have HEL := Lib.hid (show (xsOf (Net.firsts dN M)).length = (Net.firsts dN M).length by simp [xsOf])
    have hdi : (if true = true then (2 : Int) ^ (t - 1) else 0) = (dN : Int) := by rw [if_pos rfl, hd]
    rw [HP.out, hdi]
    subst hn
    clear hI hz hd hdi hdN hM HP t3 t4 t2
    go_enter Tryd.func10, Tryd.ntmps10
    go_wp2_with fail
    refine H.mono ?_
    rintro e w1 ⟨rfl, rfl⟩
    clear H
    go_wp2_with (first
      | (refine Held.wpList_run (w := w) rfl (v := .int .i64 ((t - 1 : Nat) : Int)) (y_sub (S := fun _ => True) (t : Int) 1 rfl rfl rfl hsub _ trivial) ?_)
      | (refine Held.wpList_run (w := w) rfl (v := .int .u64 ((t - 1 : Nat) : Int)) (Held.y_convert (S := fun _ => True) rfl rfl (by kernel_rfl) Tryd.underlying34 hc1 _ trivial) ?_)
      | (refine Held.wpList_run (w := w) rfl (v := .int .i64 (dN : Int)) (y_shl (S := fun _ => True) 1 ((t - 1 : Nat) : Int) rfl rfl rfl hsh _ trivial) ?_))
    clear hsh hsub hc1
    go_loopw [9, 10] (fun v i wr => ∃ k : Nat, k ≤ M ∧ i = .int .i64 k ∧ Mem.Own wr w.heap.size 3 .i64 v (xsOf (Net.firsts dN k)) ∧ Below w.heap.size w wr) (fun _ i _ => M - (intOf i).toNat)
    case atStart => exact ⟨0, by omega, rfl, Mem.Own.nil _ _ _ _, Below.refl _ _⟩
    case round =>
      obtain ⟨k, hk, rfl, hown, hb⟩ := hrel
      obtain ⟨A1, c1, rfl, _, _, _⟩ := hown.form
      have hsz := hb.size
      by_cases hlt : k < M
      · have hlt' : (k : Int) < (M : Int) := by omega
        obtain ⟨m, hm⟩ : ∃ m, (xsOf (Net.firsts dN k)).length = m := ⟨_, rfl⟩
        have hm2 := HFL.out k
        have HST := Lib.hid (HFS.out k)
        rw [hm] at hown hm2 ⊢
        have HM := Lib.hid hm
        obtain ⟨qa, qb⟩ := quo_of (show 0 ≤ (k : Int) by omega) hd1 (by omega)
        have rb := rem_of qb
        have hbit : ((k : Int) / (dN : Int) % 2 = 0) ↔ k / dN % 2 = 0 := by rw [← Int.natCast_ediv]; omega
        have hq := fun W => Held.run_quo (P := Tryd.prog) 3 .i64 (a := (k : Int)) (b := (dN : Int)) (r := (k : Int) / dN) (by omega) qa W
        have hr := fun W => Held.run_rem (P := Tryd.prog) 3 .i64 (a := (k : Int) / dN) (b := 2) (r := (k : Int) / dN % 2) (by omega) rb W
        generalize (k : Int) / dN = q at *
        generalize q % 2 = z at *
        have wk : ∀ x ∈ [(k : Int)], (Lit.int .i64 x).wf = true := by intro x hx; rw [List.mem_singleton] at hx; rw [hx]; exact wf_i64 (by omega) (by omega)
        clear qa qb rb hm
        by_cases hz : z = 0
        · have hst := HST.out
          rw [if_pos (hbit.1 hz)] at hst
          have HS2 := Lib.hid hst
          subst hz
          clear hst hbit
          go_wp2_with (first
            | (refine Held.wpList_run (w := wr) rfl (v := .int .i64 q) (y_quo (S := fun _ => True) (k : Int) (dN : Int) rfl rfl rfl hq _ trivial) ?_)
            | (refine Held.wpList_run (w := wr) rfl (v := .int .i64 0) (y_rem (S := fun _ => True) q 2 rfl rfl rfl hr _ trivial) ?_)
            | (refine Held.wpList_build_row (w := wr) rfl 25 3 1 _ rfl .i64 8 [(k : Int)] Tryd.underlying25 info_int (by simp [Act.eval]) rfl (by omega) (by omega) wk ?_; intro w3 r3 g3 z3; have o3 := hown.kept g3 (by cases (Value.slice A1 m c1).ownBlock <;> simp); have i3 : Ints w3 .i64 w3.heap.size (some ⟨wr.heap.size, 0, none⟩) 1 [(k : Int)] := r3.ints (n := 1) (by simp))
            | (at_builtin; refine wpList_append_ints w3 rfl _ _ 25 rfl w.heap.size 3 .i64 8 Tryd.underlying25 info_int (.slice A1 m c1) _ rfl o3 w3.heap.size (some ⟨wr.heap.size, 0, none⟩) 1 1 [(k : Int)] rfl i3 (by rw [HM.out]; omega) (by omega) (by have := g3.size; omega) ?_; intro v4 w4 o4 g4 t4))
          obtain ⟨A4, c4, rfl, _, _, _⟩ := o4.form
          go_roundw
          case rel => exact ⟨k + 1, by omega, by go_num, by rw [HS2.out]; exact o4, (hb.grown g3 hb.size (by simp)).grown g4 (by have := g3.size; have := hb.size; omega) (fun r e => (o3.2.lt r e).1)⟩
          case measure => simp [intOf]; omega
        · have hst := HST.out
          rw [if_neg (fun h => hz (hbit.2 h)), List.append_nil] at hst
          have HS2 := Lib.hid hst
          have hzb : (z == 0) = false := by simpa using hz
          clear hst hbit
          go_wp2_with (first
            | (refine Held.wpList_run (w := wr) rfl (v := .int .i64 q) (y_quo (S := fun _ => True) (k : Int) (dN : Int) rfl rfl rfl hq _ trivial) ?_)
            | (refine Held.wpList_run (w := wr) rfl (v := .int .i64 z) (y_rem (S := fun _ => True) q 2 rfl rfl rfl hr _ trivial) ?_))
          go_roundw
          case rel => exact ⟨k + 1, by omega, by go_num, by rw [HS2.out]; exact hown, hb⟩
          case measure => simp [intOf]; omega
      · have hkM : k = M := by omega
        subst hkM
        rw [HEL.out] at hown ⊢
        go_wp2_with fail
        go_ret2
        exact ⟨A1, c1, rfl, hown.ints HEL.out, hb⟩
end Go.Proofs.YtagcnbcmegdgmaaDoor.Bi
namespace Go.Proofs.YtagcnbcmegdgmaaDoor.Bi
open Go.RowKit Go.Proofs.YtagcnbcmegdgmaaDoor Mem
set_option maxRecDepth 100000
theorem rng {z : Int} (h : (Lit.int .i64 z).wf = true) : -9223372036854775808 ≤ z ∧ z ≤ 9223372036854775807 := by
  simp [Lit.wf, IntKind.min, IntKind.max, IntKind.signed, IntKind.bits] at h
  omega
def biLaid : List (String × DataW Unit) := [("math/bits.deBruijn32tab", Rows.laid_math_bits_deBruijn32tab), ("math/bits.deBruijn64tab", Rows.laid_math_bits_deBruijn64tab)]
theorem bits_of_laid {w : World} (h : laidMetH Tryd.prog biLaid w) : TzT w := by
  rw [MakeChecks.laidMetH_plain _ _ _ (by kernel_rfl)] at h
  have h2 : Lib.TabIs Tryd.prog w "math/bits.deBruijn64tab" .u8 tzT := Lib.tabIs_of_head (e := 5) (n := 64) (zs := tzT) (t := 52) (g := 1) (by kernel_rfl) (by kernel_rfl) Tryd.underlying52 Tryd.underlying5 (by kernel_rfl) (by kernel_rfl) (laidMet.tail h)
  exact Po.tabK_of_var (by kernel_rfl) h2
end Go.Proofs.YtagcnbcmegdgmaaDoor.Bi
namespace Go.Proofs.YtagcnbcmegdgmaaDoor.Bi
open Go.RowKit Go.Proofs.YtagcnbcmegdgmaaDoor
theorem mem_firsts {d n a : Nat} : a ∈ Net.firsts d n ↔ a < n ∧ a / d % 2 = 0 := by
  unfold Net.firsts
  rw [List.mem_filter, List.mem_range]
  simp
theorem pairs_small {n r : Int} {s t : Nat} {ok : Bool} (hF : Found (stg n) r s t ok) : (pairsOf n t ok).length ≤ n.toNat ∧ (∀ a ∈ pairsOf n t ok, a ≤ 65536) ∧ t ≤ 16 := by
  cases ok with
  | false =>
    rcases hF with ⟨h, _⟩ | ⟨_, _, h, _⟩
    · cases h
    · exact ⟨by simp [pairsOf], fun a ha => by simp [pairsOf] at ha, by omega⟩
  | true =>
    obtain ⟨hn, h1, h2, h3, h4⟩ := hF.is rfl
    have hle : 2 ^ stg n ≤ 65536 := by have := Nat.pow_le_pow_right (n := 2) (by omega) h4; simpa using this
    refine ⟨?_, fun a ha => ?_, by omega⟩
    · unfold pairsOf; rw [if_pos rfl]; exact firsts_length_le _ _
    · unfold pairsOf at ha
      rw [if_pos rfl] at ha
      have := (mem_firsts.1 ha).1
      omega
theorem xsOf_get (l : List Nat) (i : Nat) : (xsOf l).getD i 0 = ((l.getD i 0 : Nat) : Int) := by
  unfold xsOf
  rw [List.getD_eq_getElem?_getD, List.getD_eq_getElem?_getD, List.getElem?_map]
  cases l[i]? <;> rfl
theorem ysOf_get (t : Nat) (l : List Nat) {i : Nat} (hi : i < l.length) : (ysOf t l).getD i 0 = ((l.getD i 0 : Nat) : Int) + 2 ^ (t - 1) := by
  unfold ysOf
  rw [List.getD_eq_getElem?_getD, List.getD_eq_getElem?_getD, List.getElem?_map, List.getElem?_eq_getElem hi]
  rfl
theorem getD_mem {l : List Nat} {i : Nat} (hi : i < l.length) : l.getD i 0 ∈ l := by
  rw [List.getD_eq_getElem?_getD, List.getElem?_eq_getElem hi]
  exact List.getElem_mem hi
def fn (l : List Int) (i : Nat) : Int := l.getD i 0
end Go.Proofs.YtagcnbcmegdgmaaDoor.Bi
