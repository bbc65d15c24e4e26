/-
  dominohelp.Plain of lists of numbers, and the document's own answers for package bitonic, by their contracts.
  The document's own answers for package bitonic: which stage and step a round is, which pairs it has, and which of them are up, by their contracts.
  The document's own answer for package bitonic: the first places of a round's pairs, and how far the second ones are, by its contract.
  What the rows' condition on math/bits' tables gives: the table of 64 numbers holds what the program's text lays.
  Package pipe's Blocks and package shape's jobOf, mapped, rounds, roundsOf, size, by their contracts.
-/
import Derived.Test.YtipmfficjomcoaaDoorB4
import Derived.Test.YtipmfficjomcoaaDoorB3
import Derived.Test.YtipmfficjomcoaaDoorB2
import Derived.Lib.LaidTab
import Derived.LaidMore
import Derived.Stop.Joined
import Derived.Stop.LaidErr
set_option linter.unusedVariables false
namespace Go.Proofs.YtipmfficjomcoaaDoor.Bi
open Go.RowKit Go.Shelf Go.Proofs.YtipmfficjomcoaaDoor Mem Held Help Go.Proofs.YtipmfficjomcoaaDoor.Range
attribute [local go_sem] Oper.semAt_some
attribute [local irreducible] wpList wpListIn Calls
set_option maxRecDepth 100000 in
set_option maxHeartbeats 2000000 in
theorem rpadded_any (n : Int) (w : World) (h0 : -9223372036854775808 ≤ n) (h1 : n ≤ 9223372036854775807) :
    Calls Tryd.prog 51 #[.int .i64 n] w fun e w' => e = .returned (.int .i64 (padV n)) ∧ w = w' := by
  obtain ⟨m, hm⟩ : ∃ m, min n 65536 = m := ⟨_, rfl⟩
  have hmin : (if (65536 : Int) < n then 65536 else n) = m := by split <;> omega
  have hm2 : m ≤ 65536 := by omega
  have HM := Lib.hid hm
  clear hm
  go_enter Tryd.func51, Tryd.ntmps51
  go_wp2_with (refine Held.wpList_run (w := w) rfl (v := .int .i64 m) (Held.y_min (S := fun _ => True) rfl rfl rfl hmin _ trivial) ?_)
  clear hmin
  go_loopw [3] (fun v wr => ∃ (k : Nat) (p : Int), v = .int .i64 p ∧ Hid (p = 2 ^ k) ∧ k ≤ 16 ∧ Hid (padF (16 - k) k n = padS n) ∧ w = wr) (fun v _ => (70000 - intOf v).toNat)
  case atStart => exact ⟨0, 1, rfl, Lib.hid (by simp), by omega, Lib.hid rfl, rfl⟩
  case round =>
    obtain ⟨k, p, rfl, hp, hk, hf, rfl⟩ := hrel
    have p1 : 1 ≤ p := by rw [hp.out]; exact two_pos k
    have p2 : p ≤ 65536 := by rw [hp.out]; exact two_16 hk
    by_cases c1 : p < m
    · have k16 : k < 16 := by
        rcases Nat.lt_or_ge k 16 with c | c
        · exact c
        · have : k = 16 := by omega
          have := hp.out
          subst k
          omega
      have HN := Lib.hid (show padF (16 - (k + 1)) (k + 1) n = padS n by
        have := HM.out
        rw [← hf.out, show 16 - k = (16 - (k + 1)) + 1 by omega]
        rw [hp.out] at c1
        conv => rhs; rw [padF, if_pos (show (2 : Int) ^ k < n by omega)])
      have HP := Lib.hid (show 2 * p = 2 ^ (k + 1) by rw [hp.out, two_succ])
      go_wp2_with fail
      go_roundw
      case rel => exact ⟨k + 1, 2 * p, by go_num, HP, by omega, HN, trivial⟩
      case measure => simp [intOf]; omega
    · have HN := Lib.hid (show p = padV n by
        have h1 := hf.out
        have h2 := HM.out
        unfold padV
        rw [← h1, hp.out]
        rw [hp.out] at c1
        cases hq : 16 - k with
        | zero => rfl
        | succ q =>
          have h3 := two_mono (show k ≤ 15 by omega)
          rw [show (2 : Int) ^ 15 = 32768 by decide] at h3
          rw [padF, if_neg (show ¬ (2 : Int) ^ k < n by omega)])
      go_wp2_with fail
      go_ret
      exact ⟨by rw [HN.out]; rfl, rfl⟩
def powV (n : Int) : Int := if padV n = n then (stg n : Int) else -1
set_option maxRecDepth 100000 in
set_option maxHeartbeats 2000000 in
theorem power_any (n : Int) (w : World) (h0 : -9223372036854775808 ≤ n) (h1 : n ≤ 9223372036854775807) :
    Calls Tryd.prog 52 #[.int .i64 n] w fun e w' => e = .returned (.int .i64 (powV n)) ∧ w = w' := by
  have H := rpadded_any n w h0 h1
  have hq1 : 1 ≤ padV n := two_pos _
  have hq2 : padV n ≤ 65536 := two_16 (padS_le n)
  by_cases c1 : n < 1
  · have HV := Lib.hid (show powV n = -1 by unfold powV; rw [if_neg (by omega)])
    go_enter Tryd.func52, Tryd.ntmps52
    go_wp2_with fail
    go_ret
    exact ⟨by rw [HV.out]; rfl, rfl⟩
  by_cases c2 : 65536 < n
  · have HV := Lib.hid (show powV n = -1 by unfold powV; rw [if_neg (by omega)])
    go_enter Tryd.func52, Tryd.ntmps52
    go_wp2_with fail
    go_ret
    exact ⟨by rw [HV.out]; rfl, rfl⟩
  by_cases c3 : padV n = n
  · have HV := Lib.hid (show powV n = (stg n : Int) by unfold powV; rw [if_pos c3])
    have h16 := stg_le n
    have hn : n = 2 ^ stg n := by
      rcases stg_is n with e | e
      · exact e
      · exact absurd c3 e.2
    have HS := Lib.hid (show n = 2 ^ stg n from hn)
    rw [c3] at H
    generalize stg n = S at *
    clear hn hq1 hq2 c3
    go_enter Tryd.func52, Tryd.ntmps52
    go_wp2_with fail
    refine H.mono ?_
    rintro e w1 ⟨rfl, rfl⟩
    go_wp2_with fail
    go_loopw [3] (fun v wr => ∃ k : Nat, v = .int .i64 (k : Int) ∧ k ≤ S ∧ w = wr) (fun v _ => S - (intOf v).toNat)
    case atStart => exact ⟨0, rfl, by omega, rfl⟩
    case round =>
      obtain ⟨k, rfl, hk, rfl⟩ := hrel
      have hc : IntKind.u64.wrap (k : Int) = (k : Int) := by rw [IntKind.wrap_u64]; omega
      have p1 := two_pos k
      have p2 := two_16 (show k ≤ 16 by omega)
      have hr := fun W : World => Rc.run_shl_ (P := Tryd.prog) 3 .i64 .u64 (a := 1) k (by show k ≤ 64; omega) W
      rw [show (1 : Int) * 2 ^ k = 2 ^ k by omega, show IntKind.i64.wrap (2 ^ k) = 2 ^ k by rw [IntKind.wrap_i64]; omega] at hr
      by_cases hlt : k < S
      · have hd : (2 : Int) ^ k < n := by
          have := two_mono (show k + 1 ≤ S by omega)
          rw [two_succ] at this
          have := HS.out
          omega
        obtain ⟨p, hp⟩ : ∃ p : Int, 2 ^ k = p := ⟨_, rfl⟩
        rw [hp] at hd hr p1 p2
        clear hp
        go_wp2_with (first
          | (refine Held.wpList_run (w := w) rfl (v := .int .u64 (k : Int)) (Held.y_convert (S := fun _ => True) rfl rfl (by kernel_rfl) Tryd.underlying37 hc _ trivial) ?_)
          | (refine Held.wpList_run (w := w) rfl (v := .int .i64 p) (Held.y_bin (S := fun _ => True) rfl rfl rfl (fun W => by simp [eqGuard]) hr _ trivial) ?_))
        go_roundw
        case rel => exact ⟨k + 1, by go_num, by omega, trivial⟩
        case measure => simp [intOf]; omega
      · obtain rfl : k = S := by omega
        have hd : ¬ (2 : Int) ^ k < n := by have := HS.out; omega
        obtain ⟨p, hp⟩ : ∃ p : Int, 2 ^ k = p := ⟨_, rfl⟩
        rw [hp] at hd hr p1 p2
        clear hp
        go_wp2_with (first
          | (refine Held.wpList_run (w := w) rfl (v := .int .u64 (k : Int)) (Held.y_convert (S := fun _ => True) rfl rfl (by kernel_rfl) Tryd.underlying37 hc _ trivial) ?_)
          | (refine Held.wpList_run (w := w) rfl (v := .int .i64 p) (Held.y_bin (S := fun _ => True) rfl rfl rfl (fun W => by simp [eqGuard]) hr _ trivial) ?_))
        go_ret
        exact ⟨by rw [HV.out]; rfl, rfl⟩
  · have HV := Lib.hid (show powV n = -1 by unfold powV; rw [if_neg c3])
    generalize padV n = q at *
    go_enter Tryd.func52, Tryd.ntmps52
    go_wp2_with fail
    refine H.mono ?_
    rintro e w1 ⟨rfl, rfl⟩
    go_wp2_with fail
    go_ret
    exact ⟨by rw [HV.out]; rfl, rfl⟩
theorem rrounds_any (n : Int) (w : World) (h0 : -9223372036854775808 ≤ n) (h1 : n ≤ 9223372036854775807) :
    Calls Tryd.prog 30 #[.int .i64 n] w fun e w' => e = .returned (.int .i64 (tri (stg n) : Int)) ∧ w = w' := by
  have H := power_any n w h0 h1
  by_cases c3 : padV n = n
  · have h16 := stg_le n
    have htri : tri (stg n) = stg n * (stg n + 1) / 2 := rfl
    rw [htri]
    rw [show powV n = (stg n : Int) by unfold powV; rw [if_pos c3]] at H
    generalize stg n = q at *
    clear htri h0 h1
    have b : q * (q + 1) ≤ 16 * 17 := Nat.mul_le_mul h16 (by omega)
    obtain ⟨m, hm⟩ : ∃ m, q * (q + 1) = m := ⟨_, rfl⟩
    have hmul : IntKind.i64.wrap ((q : Int) * ((q : Int) + 1)) = (m : Int) := by
      rw [show (q : Int) * ((q : Int) + 1) = (m : Int) by rw [← hm]; simp, IntKind.wrap_i64]; omega
    rw [hm] at b ⊢
    clear hm c3
    have hq0 : ¬ (q : Int) < 0 := by omega
    have hq := Held.run_quo (P := Tryd.prog) 3 .i64 (a := (m : Int)) (b := 2) (r := ((m / 2 : Nat) : Int)) (by omega) (by rw [Int.tdiv_eq_ediv_of_nonneg (by omega), IntKind.wrap_i64]; omega)
    go_enter Tryd.func30, Tryd.ntmps30
    go_wp2_with fail
    refine H.mono ?_
    rintro e w1 ⟨rfl, rfl⟩
    go_wp2_with (first
      | (refine Held.wpList_run (w := w) rfl (v := .int .i64 (m : Int)) (Held.y_int (S := fun _ => True) rfl rfl rfl (Held.run_mul 3 .i64 hmul) _ trivial) ?_)
      | (refine Held.wpList_run (w := w) rfl (v := .int .i64 ((m / 2 : Nat) : Int)) (Held.y_int (S := fun _ => True) rfl rfl rfl hq _ trivial) ?_))
    go_ret
    exact ⟨rfl, rfl⟩
  · have hs : stg n = 0 := by
      rcases stg_is n with e | e
      · exact absurd (by rw [e]; exact padV_pow (stg_le n)) c3
      · exact e.1
    rw [show powV n = -1 by unfold powV; rw [if_neg c3]] at H
    rw [hs]
    go_enter Tryd.func30, Tryd.ntmps30
    go_wp2_with fail
    refine H.mono ?_
    rintro e w1 ⟨rfl, rfl⟩
    go_wp2_with fail
    go_ret
    exact ⟨rfl, rfl⟩
end Go.Proofs.YtipmfficjomcoaaDoor.Bi
namespace Go.Proofs.YtipmfficjomcoaaDoor.Bi
open Go.RowKit Go.Shelf Go.Proofs.YtipmfficjomcoaaDoor Mem Held Help Go.Proofs.YtipmfficjomcoaaDoor.Range
attribute [local go_sem] Oper.semAt_some
attribute [local irreducible] wpList wpListIn Calls
set_option maxRecDepth 100000 in
set_option maxHeartbeats 4000000 in
theorem rof_any (n r : Int) (s t : Nat) (ok : Bool) (w : World) (h0 : -9223372036854775808 ≤ n) (h1 : n ≤ 9223372036854775807) (hF : Found (stg n) r s t ok) :
    Calls Tryd.prog 71 #[.int .i64 n, .int .i64 r] w fun e w' => e = .returned (.tuple #[.int .i64 (s : Int), .int .i64 (t : Int)]) ∧ w = w' := by
  have H := rrounds_any n w h0 h1
  have h16 := stg_le n
  have htl := tri_le h16
  generalize stg n = S at *
  rcases hF with ⟨hok, ha⟩ | ⟨hok, rfl, rfl, hno⟩
  · obtain ⟨hr0, hr1⟩ := ha.lt
    obtain ⟨t1, ts, sS, he⟩ := ha
    obtain ⟨q0, rfl⟩ : ∃ q, s = q + 1 := ⟨s - 1, by omega⟩
    simp only [Nat.add_sub_cancel] at he
    have HE := Lib.hid he
    have HM := Lib.hid (fun a b (h : a ≤ b) => tri_mono h)
    have HTS := Lib.hid tri_succ
    have hnr : ¬ (tri S : Int) ≤ r := by omega
    generalize tri S = T at *
    clear he
    go_enter Tryd.func71, Tryd.ntmps71
    go_wp2_with fail
    refine H.mono ?_
    rintro e w1 ⟨rfl, rfl⟩
    go_wp2_with fail
    go_loopw [1, 6] (fun rv sv wr => ∃ q u : Nat, rv = .int .i64 (u : Int) ∧ Hid (r = ((tri q + u : Nat) : Int)) ∧ sv = .int .i64 ((q : Int) + 1) ∧ q ≤ q0 ∧ u ≤ 200 ∧ w = wr) (fun rv _ _ => (intOf rv).toNat)
    case atStart => exact ⟨0, r.toNat, by rw [show ((r.toNat : Nat) : Int) = r by omega], Lib.hid (by rw [tri_zero]; omega), rfl, by omega, by omega, rfl⟩
    case round =>
      obtain ⟨q, u, rfl, hu, rfl, hq, hu2, rfl⟩ := hrel
      by_cases hge : q + 1 ≤ u
      · have hge' : (q : Int) + 1 ≤ (u : Int) := by omega
        have hq1 : q + 1 ≤ q0 := by
          rcases Nat.lt_or_ge q q0 with c | c
          · omega
          · have e1 : q = q0 := by omega
            have e2 := HE.out
            have e3 := hu.out
            rw [e1] at e3 hge
            omega
        go_wp2_with fail
        go_roundw
        case rel => exact ⟨q + 1, u - (q + 1), by go_num, Lib.hid (by rw [hu.out, HTS.out]; omega), by go_num, hq1, by omega, trivial⟩
        case measure => simp [intOf]; omega
      · have hge' : ¬ (q : Int) + 1 ≤ (u : Int) := by omega
        have hqq : q = q0 := by
          rcases Nat.lt_or_ge q q0 with c | c
          · have e1 := HM.out (q + 1) q0 (by omega)
            rw [HTS.out] at e1
            have e2 := HE.out
            have e3 := hu.out
            omega
          · omega
        have htt : (q : Int) + 1 - (u : Int) = (t : Int) := by
          have e2 := HE.out
          have e3 := hu.out
          rw [hqq] at e3 ⊢
          omega
        subst hqq
        have HT := Lib.hid htt
        clear htt
        go_wp2_with fail
        go_ret2
        refine ⟨?_, rfl⟩
        simp [HT.out]
  · by_cases hr : r < 0
    · go_enter Tryd.func71, Tryd.ntmps71
      go_wp2_with fail
      go_ret2
      exact ⟨rfl, rfl⟩
    · have hnr : (tri S : Int) ≤ r := by omega
      generalize tri S = T at *
      clear hno
      go_enter Tryd.func71, Tryd.ntmps71
      go_wp2_with fail
      refine H.mono ?_
      rintro e w1 ⟨rfl, rfl⟩
      go_wp2_with fail
      go_ret2
      exact ⟨rfl, rfl⟩
section
variable {P : Program} {S : World → Prop} {ρ : Operand → Value} {o : Oper} {t ty : TypeId} {x y : Operand} {k k' : IntKind} {r : Int}
theorem y_shl (a n : Int) (ho : o.op = .binOp .shl t x y ty) (hx : ρ x = .int k a) (hy : ρ y = .int k' n) (hr : ∀ w : World, (binOp .shl t (.int k a) (.int k' n)).run P w = .ok (.int k r) w) : ∀ w, S w → (execOp ρ o).run P w = .ok (.value (.int k r)) w :=
  Held.y_bin ho hx hy (fun w => by simp [eqGuard]) hr
theorem y_quo (a b : Int) (ho : o.op = .binOp .quo t x y ty) (hx : ρ x = .int k a) (hy : ρ y = .int k b) (hr : ∀ w : World, (binOp .quo t (.int k a) (.int k b)).run P w = .ok (.int k r) w) : ∀ w, S w → (execOp ρ o).run P w = .ok (.value (.int k r)) w := Held.y_int ho hx hy hr
theorem y_rem (a b : Int) (ho : o.op = .binOp .rem t x y ty) (hx : ρ x = .int k a) (hy : ρ y = .int k b) (hr : ∀ w : World, (binOp .rem t (.int k a) (.int k b)).run P w = .ok (.int k r) w) : ∀ w, S w → (execOp ρ o).run P w = .ok (.value (.int k r)) w := Held.y_int ho hx hy hr
theorem y_sub (a b : Int) (ho : o.op = .binOp .sub t x y ty) (hx : ρ x = .int k a) (hy : ρ y = .int k b) (hr : k.wrap (a - b) = r) : ∀ w, S w → (execOp ρ o).run P w = .ok (.value (.int k r)) w := Held.y_int ho hx hy (Held.run_sub t k hr)
end
theorem quo_of {a d : Int} (ha : 0 ≤ a) (hd : 1 ≤ d) (ha' : a < 9223372036854775808) : IntKind.i64.wrap (a.tdiv d) = a / d ∧ 0 ≤ a / d := by
  have h0 : 0 ≤ a / d := Int.ediv_nonneg ha (by omega)
  have h1 := Int.ediv_le_self d ha
  rw [Int.tdiv_eq_ediv_of_nonneg ha, IntKind.wrap_i64]
  omega
theorem rem_of {a : Int} (ha : 0 ≤ a) : a.tmod 2 = a % 2 := Int.tmod_eq_emod_of_nonneg ha
set_option maxRecDepth 100000 in
set_option maxHeartbeats 4000000 in
theorem rup_any (n r a : Int) (s t : Nat) (ok : Bool) (w : World) (h0 : -9223372036854775808 ≤ n) (h1 : n ≤ 9223372036854775807) (ha0 : -9223372036854775808 ≤ a) (ha1 : a ≤ 9223372036854775807) (hF : Found (stg n) r s t ok) :
    Calls Tryd.prog 60 #[.int .i64 n, .int .i64 r, .int .i64 a] w fun e w' => e = .returned (.bool (upV n s t ok a)) ∧ w = w' := by
  have H := rof_any n r s t ok w h0 h1 hF
  have ht := hF.t1 (stg_le n)
  have hz : ok = false → s = 0 := fun h => by
    rcases hF with ⟨h2, _⟩ | ⟨_, h2, _⟩
    · rw [h] at h2; cases h2
    · exact h2
  clear hF
  cases ok with
  | false =>
    have hv : upV n s t false a = false := by simp [upV]
    rw [hv]
    obtain rfl := hz rfl
    go_enter Tryd.func60, Tryd.ntmps60
    go_wp2_with fail
    refine H.mono ?_
    rintro e w1 ⟨rfl, rfl⟩
    go_wp2_with fail
    go_ret
    exact ⟨rfl, rfl⟩
  | true =>
    obtain ⟨t1, t2, t3⟩ := ht rfl
    clear hz ht
    have hs0 : ¬ (s : Int) = 0 := by omega
    by_cases c0 : a < 0
    · have hv : upV n s t true a = false := by simp [upV]; intro h; omega
      rw [hv]
      go_enter Tryd.func60, Tryd.ntmps60
      go_wp2_with fail
      refine H.mono ?_
      rintro e w1 ⟨rfl, rfl⟩
      go_wp2_with fail
      go_ret
      exact ⟨rfl, rfl⟩
    by_cases c1 : n ≤ a
    · have hv : upV n s t true a = false := by simp [upV]; intro h h'; omega
      rw [hv]
      go_enter Tryd.func60, Tryd.ntmps60
      go_wp2_with fail
      refine H.mono ?_
      rintro e w1 ⟨rfl, rfl⟩
      go_wp2_with fail
      go_ret
      exact ⟨rfl, rfl⟩
    have hv : upV n s t true a = (decide (a / 2 ^ (t - 1) % 2 = 0) && decide (a / 2 ^ s % 2 = 0)) := by
      have e1 : decide (0 ≤ a) = true := by simp; omega
      have e2 : decide (a < n) = true := by simp; omega
      unfold upV
      rw [e1, e2]
      simp
    have sh := fun (k : Nat) (hk : k ≤ 16) (W : World) => show (binOp .shl 3 (.int .i64 1) (.int .u64 (k : Int))).run Tryd.prog W = .ok (.int .i64 (2 ^ k)) W by
      have h := Rc.run_shl_ (P := Tryd.prog) 3 .i64 .u64 (a := 1) k (by show k ≤ 64; omega) W
      have p1 := two_pos k
      have p2 := two_16 hk
      rw [show (1 : Int) * 2 ^ k = 2 ^ k by omega, show IntKind.i64.wrap (2 ^ k) = 2 ^ k by rw [IntKind.wrap_i64]; omega] at h
      exact h
    have s1 := sh (t - 1) (by omega)
    have s2 := sh s t3
    have p1 := two_pos (t - 1)
    have p2 := two_pos s
    have hsub : IntKind.i64.wrap ((t : Int) - 1) = ((t - 1 : Nat) : Int) := by rw [IntKind.wrap_i64]; omega
    have hc1 : IntKind.u64.wrap ((t - 1 : Nat) : Int) = ((t - 1 : Nat) : Int) := by rw [IntKind.wrap_u64]; omega
    have hc2 : IntKind.u64.wrap (s : Int) = (s : Int) := by rw [IntKind.wrap_u64]; omega
    obtain ⟨qa, qb⟩ := quo_of (show 0 ≤ a by omega) p1 (by omega)
    obtain ⟨qc, qd⟩ := quo_of (show 0 ≤ a by omega) p2 (by omega)
    obtain ⟨d1, hd1⟩ : ∃ d : Int, 2 ^ (t - 1) = d := ⟨_, rfl⟩
    obtain ⟨d2, hd2⟩ : ∃ d : Int, 2 ^ s = d := ⟨_, rfl⟩
    rw [hd1] at s1 p1 qa qb hv
    rw [hd2] at s2 p2 qc qd hv
    have ra := rem_of qb
    have rb := rem_of qd
    generalize a / d1 = q1 at *
    generalize a / d2 = q2 at *
    generalize hr1 : q1 % 2 = r1 at *
    generalize hr2 : q2 % 2 = r2 at *
    have hq1 := fun W => Held.run_quo (P := Tryd.prog) 3 .i64 (a := a) (b := d1) (r := q1) (by omega) qa W
    have hq2 := fun W => Held.run_quo (P := Tryd.prog) 3 .i64 (a := a) (b := d2) (r := q2) (by omega) qc W
    have hm1 := fun W => Held.run_rem (P := Tryd.prog) 3 .i64 (a := q1) (b := 2) (r := r1) (by omega) ra W
    have hm2 := fun W => Held.run_rem (P := Tryd.prog) 3 .i64 (a := q2) (b := 2) (r := r2) (by omega) rb W
    have hb0 : ((s : Int) == 0) = false := by simp; omega
    have hb1 : decide (a < 0) = false := by simp; omega
    have hb2 : decide (n ≤ a) = false := by simp; omega
    rw [hv]
    clear hr1 hr2 qa qb qc qd ra rb hd1 hd2 hv sh
    by_cases hz : r1 = 0
    · have hzd : decide (r1 = 0) = true := by simp [hz]
      have hne : (r1 != 0) = false := by simp [hz]
      rw [hzd, Bool.true_and]
      have HZ := Lib.hid hz
      clear hz hzd
      go_enter Tryd.func60, Tryd.ntmps60
      go_wp2_with fail
      refine H.mono ?_
      rintro e w1 ⟨rfl, rfl⟩
      go_wp2_with (first
        | (refine Held.wpList_run (w := w) rfl (v := .int .i64 ((t - 1 : Nat) : Int)) (y_sub (S := fun _ => True) (t : Int) 1 rfl rfl rfl hsub _ trivial) ?_; simp only [Act.put, Z1, Z2, Z3])
        | (refine Held.wpList_run (w := w) rfl (v := .int .u64 ((t - 1 : Nat) : Int)) (Held.y_convert (S := fun _ => True) rfl rfl (by kernel_rfl) Tryd.underlying37 hc1 _ trivial) ?_; simp only [Act.put, Z1, Z2, Z3])
        | (refine Held.wpList_run (w := w) rfl (v := .int .u64 (s : Int)) (Held.y_convert (S := fun _ => True) rfl rfl (by kernel_rfl) Tryd.underlying37 hc2 _ trivial) ?_; simp only [Act.put, Z1, Z2, Z3])
        | (refine Held.wpList_run (w := w) rfl (v := .int .i64 d1) (y_shl (S := fun _ => True) 1 ((t - 1 : Nat) : Int) rfl rfl rfl s1 _ trivial) ?_; simp only [Act.put, Z1, Z2, Z3])
        | (refine Held.wpList_run (w := w) rfl (v := .int .i64 d2) (y_shl (S := fun _ => True) 1 (s : Int) rfl rfl rfl s2 _ trivial) ?_; simp only [Act.put, Z1, Z2, Z3])
        | (refine Held.wpList_run (w := w) rfl (v := .int .i64 q1) (y_quo (S := fun _ => True) a d1 rfl rfl rfl hq1 _ trivial) ?_; simp only [Act.put, Z1, Z2, Z3])
        | (refine Held.wpList_run (w := w) rfl (v := .int .i64 q2) (y_quo (S := fun _ => True) a d2 rfl rfl rfl hq2 _ trivial) ?_; simp only [Act.put, Z1, Z2, Z3])
        | (refine Held.wpList_run (w := w) rfl (v := .int .i64 r1) (y_rem (S := fun _ => True) q1 2 rfl rfl rfl hm1 _ trivial) ?_; simp only [Act.put, Z1, Z2, Z3])
        | (refine Held.wpList_run (w := w) rfl (v := .int .i64 r2) (y_rem (S := fun _ => True) q2 2 rfl rfl rfl hm2 _ trivial) ?_; simp only [Act.put, Z1, Z2, Z3]))
      go_ret
      exact ⟨Mem.ret_bool rfl, rfl⟩
    · have hzd : decide (r1 = 0) = false := by simp [hz]
      have hne : (r1 != 0) = true := by simp [hz]
      rw [hzd, Bool.false_and]
      clear hzd
      go_enter Tryd.func60, Tryd.ntmps60
      go_wp2_with fail
      refine H.mono ?_
      rintro e w1 ⟨rfl, rfl⟩
      go_wp2_with (first
        | (refine Held.wpList_run (w := w) rfl (v := .int .i64 ((t - 1 : Nat) : Int)) (y_sub (S := fun _ => True) (t : Int) 1 rfl rfl rfl hsub _ trivial) ?_; simp only [Act.put, Z1, Z2, Z3])
        | (refine Held.wpList_run (w := w) rfl (v := .int .u64 ((t - 1 : Nat) : Int)) (Held.y_convert (S := fun _ => True) rfl rfl (by kernel_rfl) Tryd.underlying37 hc1 _ trivial) ?_; simp only [Act.put, Z1, Z2, Z3])
        | (refine Held.wpList_run (w := w) rfl (v := .int .i64 d1) (y_shl (S := fun _ => True) 1 ((t - 1 : Nat) : Int) rfl rfl rfl s1 _ trivial) ?_; simp only [Act.put, Z1, Z2, Z3])
        | (refine Held.wpList_run (w := w) rfl (v := .int .i64 q1) (y_quo (S := fun _ => True) a d1 rfl rfl rfl hq1 _ trivial) ?_; simp only [Act.put, Z1, Z2, Z3])
        | (refine Held.wpList_run (w := w) rfl (v := .int .i64 r1) (y_rem (S := fun _ => True) q1 2 rfl rfl rfl hm1 _ trivial) ?_; simp only [Act.put, Z1, Z2, Z3]))
      go_ret
      exact ⟨rfl, rfl⟩
end Go.Proofs.YtipmfficjomcoaaDoor.Bi
namespace Go.Proofs.YtipmfficjomcoaaDoor.Bi
open Go.RowKit Go.Shelf Go.Proofs.YtipmfficjomcoaaDoor Mem Held Help Go.Proofs.YtipmfficjomcoaaDoor.Range
attribute [local go_sem] Oper.semAt_some
attribute [local irreducible] wpList wpListIn Calls
set_option maxRecDepth 100000 in
set_option maxHeartbeats 4000000 in
theorem rround_own (n r : Int) (s t : Nat) (ok : Bool) (w : World) (h0 : -9223372036854775808 ≤ n) (h1 : n ≤ 9223372036854775807) (hF : Found (stg n) r s t ok) :
    Calls Tryd.prog 59 #[.int .i64 n, .int .i64 r] w fun e w' => ∃ A c, e = .returned (.tuple #[.slice A (pairsOf n t ok).length c, .int .i64 (if ok then 2 ^ (t - 1) else 0)]) ∧ Mem.Own w' w.heap.size 3 .i64 (.slice A (pairsOf n t ok).length c) (xsOf (pairsOf n t ok)) ∧ Below w.heap.size w w' := by
  have H := rof_any n r s t ok w h0 h1 hF
  have hI := hF.is
  have hz : ok = false → s = 0 := fun h => by
    rcases hF with ⟨h2, _⟩ | ⟨_, h2, _⟩
    · rw [h] at h2; cases h2
    · exact h2
  clear hF h0 h1
  cases ok with
  | false =>
    obtain rfl := hz rfl
    have hp : pairsOf n t false = [] := rfl
    rw [hp]
    go_enter Tryd.func59, Tryd.ntmps59
    go_wp2_with fail
    refine H.mono ?_
    rintro e w1 ⟨rfl, rfl⟩
    go_wp2_with fail
    go_ret2
    exact ⟨none, 0, rfl, Mem.Own.nil _ _ _ _, Below.refl _ _⟩
  | true =>
    obtain ⟨hn, t1, t2, t3, t4⟩ := hI rfl
    have hd := two_nat (t - 1)
    have hd1 := two_pos (t - 1)
    have hd2 := two_16 (show t - 1 ≤ 16 by omega)
    obtain ⟨M, hM⟩ : ∃ M : Nat, 2 ^ stg n = M := ⟨_, rfl⟩
    have hM16 : M ≤ 65536 := by rw [← hM]; exact Nat.pow_le_pow_right (by omega) t4
    rw [hM] at hn
    obtain ⟨dN, hdN⟩ : ∃ dN : Nat, 2 ^ (t - 1) = dN := ⟨_, rfl⟩
    have HP := Lib.hid (show pairsOf n t true = Net.firsts dN M by unfold pairsOf; rw [if_pos rfl, hdN, hn]; rfl)
    rw [hdN] at hd
    have hsh := fun W : World => Rc.run_shl_ (P := Tryd.prog) 3 .i64 .u64 (a := 1) (t - 1) (by show t - 1 ≤ 64; omega) W
    rw [show (1 : Int) * 2 ^ (t - 1) = 2 ^ (t - 1) by omega, hd] at hsh
    rw [hd] at hd1 hd2
    rw [show IntKind.i64.wrap (dN : Int) = (dN : Int) by rw [IntKind.wrap_i64]; omega] at hsh
    have hsub : IntKind.i64.wrap ((t : Int) - 1) = ((t - 1 : Nat) : Int) := by rw [IntKind.wrap_i64]; omega
    have hc1 : IntKind.u64.wrap ((t - 1 : Nat) : Int) = ((t - 1 : Nat) : Int) := by rw [IntKind.wrap_u64]; omega
    have hs0 : ¬ (s : Int) = 0 := by omega
    have HFS := Lib.hid (fun k => show xsOf (Net.firsts dN (k + 1)) = xsOf (Net.firsts dN k) ++ (if k / dN % 2 = 0 then [(k : Int)] else []) by rw [Net.firsts_succ]; simp only [xsOf, List.map_append]; split <;> simp)
    have HFL := Lib.hid (fun k => show (xsOf (Net.firsts dN k)).length ≤ k by simp only [xsOf, List.length_map]; exact firsts_length_le dN k)
    have HEL := Lib.hid (show (xsOf (Net.firsts dN M)).length = (Net.firsts dN M).length by simp [xsOf])
    have hdi : (if true = true then (2 : Int) ^ (t - 1) else 0) = (dN : Int) := by rw [if_pos rfl, hd]
    rw [HP.out, hdi]
    subst hn
    clear hI hz hd hdi hdN hM HP t3 t4 t2
    go_enter Tryd.func59, Tryd.ntmps59
    go_wp2_with fail
    refine H.mono ?_
    rintro e w1 ⟨rfl, rfl⟩
    clear H
    go_wp2_with (first
      | (refine Held.wpList_run (w := w) rfl (v := .int .i64 ((t - 1 : Nat) : Int)) (y_sub (S := fun _ => True) (t : Int) 1 rfl rfl rfl hsub _ trivial) ?_)
      | (refine Held.wpList_run (w := w) rfl (v := .int .u64 ((t - 1 : Nat) : Int)) (Held.y_convert (S := fun _ => True) rfl rfl (by kernel_rfl) Tryd.underlying37 hc1 _ trivial) ?_)
      | (refine Held.wpList_run (w := w) rfl (v := .int .i64 (dN : Int)) (y_shl (S := fun _ => True) 1 ((t - 1 : Nat) : Int) rfl rfl rfl hsh _ trivial) ?_))
    clear hsh hsub hc1
    go_loopw [9, 10] (fun v i wr => ∃ k : Nat, k ≤ M ∧ i = .int .i64 k ∧ Mem.Own wr w.heap.size 3 .i64 v (xsOf (Net.firsts dN k)) ∧ Below w.heap.size w wr) (fun _ i _ => M - (intOf i).toNat)
    case atStart => exact ⟨0, by omega, rfl, Mem.Own.nil _ _ _ _, Below.refl _ _⟩
    case round =>
      obtain ⟨k, hk, rfl, hown, hb⟩ := hrel
      obtain ⟨A1, c1, rfl, _, _, _⟩ := hown.form
      have hsz := hb.size
      by_cases hlt : k < M
      · have hlt' : (k : Int) < (M : Int) := by omega
        obtain ⟨m, hm⟩ : ∃ m, (xsOf (Net.firsts dN k)).length = m := ⟨_, rfl⟩
        have hm2 := HFL.out k
        have HST := Lib.hid (HFS.out k)
        rw [hm] at hown hm2 ⊢
        have HM := Lib.hid hm
        obtain ⟨qa, qb⟩ := quo_of (show 0 ≤ (k : Int) by omega) hd1 (by omega)
        have rb := rem_of qb
        have hbit : ((k : Int) / (dN : Int) % 2 = 0) ↔ k / dN % 2 = 0 := by rw [← Int.natCast_ediv]; omega
        have hq := fun W => Held.run_quo (P := Tryd.prog) 3 .i64 (a := (k : Int)) (b := (dN : Int)) (r := (k : Int) / dN) (by omega) qa W
        have hr := fun W => Held.run_rem (P := Tryd.prog) 3 .i64 (a := (k : Int) / dN) (b := 2) (r := (k : Int) / dN % 2) (by omega) rb W
        generalize (k : Int) / dN = q at *
        generalize q % 2 = z at *
        have wk : ∀ x ∈ [(k : Int)], (Lit.int .i64 x).wf = true := by intro x hx; rw [List.mem_singleton] at hx; rw [hx]; exact wf_i64 (by omega) (by omega)
        clear qa qb rb hm
        by_cases hz : z = 0
        · have hst := HST.out
          rw [if_pos (hbit.1 hz)] at hst
          have HS2 := Lib.hid hst
          subst hz
          clear hst hbit
          go_wp2_with (first
            | (refine Held.wpList_run (w := wr) rfl (v := .int .i64 q) (y_quo (S := fun _ => True) (k : Int) (dN : Int) rfl rfl rfl hq _ trivial) ?_)
            | (refine Held.wpList_run (w := wr) rfl (v := .int .i64 0) (y_rem (S := fun _ => True) q 2 rfl rfl rfl hr _ trivial) ?_)
            | (refine Held.wpList_build_row (w := wr) rfl 30 3 1 _ rfl .i64 8 [(k : Int)] Tryd.underlying30 info_int (by simp [Act.eval]) rfl (by omega) (by omega) wk ?_; intro w3 r3 g3 z3; have o3 := hown.kept g3 (by cases (Value.slice A1 m c1).ownBlock <;> simp); have i3 : Ints w3 .i64 w3.heap.size (some ⟨wr.heap.size, 0, none⟩) 1 [(k : Int)] := r3.ints (n := 1) (by simp))
            | (at_builtin; refine wpList_append_ints w3 rfl _ _ 30 rfl w.heap.size 3 .i64 8 Tryd.underlying30 info_int (.slice A1 m c1) _ rfl o3 w3.heap.size (some ⟨wr.heap.size, 0, none⟩) 1 1 [(k : Int)] rfl i3 (by rw [HM.out]; omega) (by omega) (by have := g3.size; omega) ?_; intro v4 w4 o4 g4 t4))
          obtain ⟨A4, c4, rfl, _, _, _⟩ := o4.form
          go_roundw
          case rel => exact ⟨k + 1, by omega, by go_num, by rw [HS2.out]; exact o4, (hb.grown g3 hb.size (by simp)).grown g4 (by have := g3.size; have := hb.size; omega) (fun r e => (o3.2.lt r e).1)⟩
          case measure => simp [intOf]; omega
        · have hst := HST.out
          rw [if_neg (fun h => hz (hbit.2 h)), List.append_nil] at hst
          have HS2 := Lib.hid hst
          have hzb : (z == 0) = false := by simpa using hz
          clear hst hbit
          go_wp2_with (first
            | (refine Held.wpList_run (w := wr) rfl (v := .int .i64 q) (y_quo (S := fun _ => True) (k : Int) (dN : Int) rfl rfl rfl hq _ trivial) ?_)
            | (refine Held.wpList_run (w := wr) rfl (v := .int .i64 z) (y_rem (S := fun _ => True) q 2 rfl rfl rfl hr _ trivial) ?_))
          go_roundw
          case rel => exact ⟨k + 1, by omega, by go_num, by rw [HS2.out]; exact hown, hb⟩
          case measure => simp [intOf]; omega
      · have hkM : k = M := by omega
        subst hkM
        rw [HEL.out] at hown ⊢
        go_wp2_with fail
        go_ret2
        exact ⟨A1, c1, rfl, hown, hb⟩
end Go.Proofs.YtipmfficjomcoaaDoor.Bi
namespace Go.Proofs.YtipmfficjomcoaaDoor.Bi
open Go.RowKit Go.Proofs.YtipmfficjomcoaaDoor Mem
set_option maxRecDepth 100000
def biLaid : List (String × DataW Unit) := [("math/bits.deBruijn32tab", Rows.laid_math_bits_deBruijn32tab), ("math/bits.deBruijn64tab", Rows.laid_math_bits_deBruijn64tab)]
theorem bits_of_laid {w : World} (h : laidMetH Tryd.prog biLaid w) : TzT w := by
  rw [MakeChecks.laidMetH_plain _ _ _ (by kernel_rfl)] at h
  have h2 : Lib.TabIs Tryd.prog w "math/bits.deBruijn64tab" .u8 tzT := Lib.tabIs_of_head (e := 5) (n := 64) (zs := tzT) (t := 102) (g := 1) (by kernel_rfl) (by kernel_rfl) Tryd.underlying102 Tryd.underlying5 (by kernel_rfl) (by kernel_rfl) (laidMet.tail h)
  exact Po.tabK_of_var (by kernel_rfl) h2
end Go.Proofs.YtipmfficjomcoaaDoor.Bi
namespace Go.Proofs.YtipmfficjomcoaaDoor.Sh
open Go.RowKit Go.Shelf Mem Held Go.Proofs.YtipmfficjomcoaaDoor.Range Sl
attribute [local go_sem] Oper.semAt_some
attribute [local irreducible] wpList wpListIn Calls
section
variable {P : Program} {ops : Array Oper} {rest : List Oper} {o : Oper} {a : Act} {w : World} {Q : Exit → Act → World → Prop}
theorem wpList_fld0 (hw : Region.wanted o (yielded ops a.tmps) = true) {t : TypeId} {x : Operand} {b j k s : Nat} {fs : Array Field} (ho : o.op = .fieldAddr t x j) (hx : a.eval x = .pointer (some ⟨b, 0, none⟩)) (hu : P.underlying t = some (.struct fs)) (hk : (fs[j]?).map (·.offset) = some k) (hz : (fs[j]?).bind (fun f => (P.info? f.type).map (·.size)) = some (s + 1))
    (h : wpList P ops Q rest (a.put o.dst (.pointer (some ⟨b, k, none⟩))) w) : wpList P ops Q (o :: rest) a w :=
  Held.wpList_run hw (v := .pointer (some ⟨b, k, none⟩)) (by
    have := Held.y_field (P := P) (S := fun _ => True) (ρ := a.eval) (o := o) (b := b) (off := 0) (j := j) (k := k) (m := k) (s := s) ho hx hu hk hz (by omega) w trivial
    exact this) h
end
def inN (r k b wk : Int) : Nat := if Sp.rightB r k b wk = true then ((r + b - 1) / b).toNat else 0
def mpN (r k b wk : Int) : Nat := if Sp.rightB r k b wk = true then (k * ((r + b - 1) / b)).toNat else 0
def mN (r k b wk : Int) : Nat := if Sp.rightB r k b wk = true then (Bi.padV (k * ((r + b - 1) / b) + 1)).toNat else 0
def tN (r k b wk : Int) : Nat := Bi.tri (Bi.stg (mN r k b wk))
theorem right_says {r k b wk : Int} (h : Sp.rightB r k b wk = true) : (1 ≤ r ∧ r ≤ 64) ∧ (1 ≤ k ∧ k ≤ 4) ∧ (1 ≤ b ∧ b ≤ 8) ∧ (1 ≤ wk ∧ wk ≤ 4) ∧ (1 ≤ (r + b - 1) / b ∧ (r + b - 1) / b ≤ 64) ∧ (1 ≤ k * ((r + b - 1) / b) ∧ k * ((r + b - 1) / b) < 32) := by
  rw [Sp.rightB_of] at h
  simp only [Bool.and_eq_true, decide_eq_true_eq] at h
  obtain ⟨⟨⟨⟨h1, h2⟩, h3⟩, h4⟩, h5⟩ := h
  have h1 := Sp.inB_says h1
  have h2 := Sp.inB_says h2
  have h3 := Sp.inB_says h3
  have h4 := Sp.inB_says h4
  have e1 : 1 ≤ (r + b - 1) / b := by
    rw [Int.le_ediv_iff_mul_le (by omega)]
    omega
  have e2 : (r + b - 1) / b ≤ 64 := by
    have : (r + b - 1) / b < 65 := by
      rw [Int.ediv_lt_iff_lt_mul (by omega)]
      omega
    omega
  refine ⟨h1, h2, h3, h4, ⟨e1, e2⟩, ?_, h5⟩
  have := Int.mul_le_mul h2.1 e1 (by omega) (by omega)
  omega
theorem pad_says : ∀ p : Fin 32, 1 ≤ p.val → ∃ S, 1 ≤ S ∧ S ≤ 5 ∧ Bi.padV ((p.val : Int) + 1) = ((2 ^ S : Nat) : Int) ∧ p.val < 2 ^ S := by
  have : ∀ p : Fin 32, 1 ≤ p.val → 1 ≤ Bi.padS ((p.val : Int) + 1) ∧ Bi.padS ((p.val : Int) + 1) ≤ 5 ∧ (p.val : Int) < 2 ^ Bi.padS ((p.val : Int) + 1) := by decide +kernel
  intro p hp
  obtain ⟨k1, k2, k3⟩ := this p hp
  refine ⟨_, k1, k2, by unfold Bi.padV; exact Bi.two_nat _, ?_⟩
  rw [Bi.two_nat] at k3
  exact_mod_cast k3
theorem job_of {r k b wk : Int} (h0 : -9223372036854775808 ≤ k) (h1 : k ≤ 9223372036854775807) : JobP k (inN r k b wk) (mpN r k b wk) (mN r k b wk) (tN r k b wk) := by
  by_cases hR : Sp.rightB r k b wk = true
  · obtain ⟨_, ⟨hk1, hk4⟩, _, _, ⟨hi1, hi⟩, hq1, hq⟩ := right_says hR
    unfold tN inN mpN mN
    rw [if_pos hR, if_pos hR, if_pos hR]
    generalize (r + b - 1) / b = q at *
    obtain ⟨I, rfl⟩ : ∃ I : Nat, q = (I : Int) := ⟨q.toNat, by omega⟩
    obtain ⟨p, hp⟩ : ∃ p : Nat, k * (I : Int) = (p : Int) := ⟨(k * (I : Int)).toNat, by omega⟩
    have hIp : (I : Int) ≤ k * (I : Int) := by
      have := Int.mul_le_mul_of_nonneg_right hk1 (show (0 : Int) ≤ I by omega)
      omega
    rw [hp] at hq1 hq hIp ⊢
    obtain ⟨S, s1, s5, e, hlt⟩ := pad_says ⟨p, by omega⟩ (by show 1 ≤ p; omega)
    have e : Bi.padV ((p : Int) + 1) = ((2 ^ S : Nat) : Int) := e
    have hlt : p < 2 ^ S := hlt
    have h32 : 2 ^ S ≤ 32 := Nat.pow_le_pow_right (n := 2) (i := S) (by omega) s5
    rw [e]
    simp only [Int.toNat_natCast]
    exact ⟨by omega, by omega, hp, by omega, h32, by omega, rfl, .inr ⟨S, s1, s5, rfl⟩⟩
  · unfold tN inN mpN mN
    rw [if_neg hR, if_neg hR, if_neg hR]
    exact ⟨h0, h1, by simp, Nat.le_refl _, by omega, Nat.le_refl _, rfl, .inl rfl⟩
set_option maxRecDepth 100000 in
set_option maxHeartbeats 4000000 in
theorem blocks_any (r k b wk : Int) (w : World) :
    Calls Tryd.prog 53 #[.agg #[.int .i64 r, .int .i64 k, .int .i64 b, .int .i64 wk]] w fun e w' => e = .returned (.tuple #[.int .i64 (inN r k b wk : Int), .int .i64 (mN r k b wk : Int)]) ∧ Below w.heap.size w w' := by
  by_cases hR : Sp.rightB r k b wk = true
  · have HI := Lib.hid (show (inN r k b wk : Int) = (r + b - 1) / b by
      obtain ⟨_, _, _, _, h, _⟩ := right_says hR
      rw [inN, if_pos hR]; omega)
    have HM := Lib.hid (show (mN r k b wk : Int) = Bi.padV (k * ((r + b - 1) / b) + 1) by
      rw [mN, if_pos hR]; unfold Bi.padV; have := Bi.two_pos (Bi.padS (k * ((r + b - 1) / b) + 1)); omega)
    obtain ⟨⟨hr1, hr⟩, ⟨hk1, hk⟩, ⟨hb1, hb⟩, ⟨hw1, hw4⟩, ⟨hi1, hi⟩, hq1, hq⟩ := right_says hR
    have HR := Lib.hid (show Sp.rightE r k b wk = 0 by rw [Sp.rightE, if_pos hR])
    have e1 : IntKind.i64.wrap (r + b) = r + b := by rw [IntKind.wrap_i64]; omega
    have e2 : IntKind.i64.wrap (r + b - 1) = r + b - 1 := by rw [IntKind.wrap_i64]; omega
    have hb0 : ¬ b = 0 := by omega
    have hb0' : b ≠ 0 := by omega
    have e3 : Int.tdiv (r + b - 1) b = (r + b - 1) / b := Int.tdiv_eq_ediv_of_nonneg (by omega)
    have e4 : IntKind.i64.wrap ((r + b - 1) / b) = (r + b - 1) / b := by rw [IntKind.wrap_i64]; omega
    have e5 : IntKind.i64.wrap (k * ((r + b - 1) / b)) = k * ((r + b - 1) / b) := by rw [IntKind.wrap_i64]; omega
    have e6 : IntKind.i64.wrap (k * ((r + b - 1) / b) + 1) = k * ((r + b - 1) / b) + 1 := by rw [IntKind.wrap_i64]; omega
    have HP := fun W => Bi.padded_any (k * ((r + b - 1) / b) + 1) W (by omega) (by omega)
    rw [HI.out, HM.out]
    clear HI HM
    generalize Bi.padV (k * ((r + b - 1) / b) + 1) = M at *
    generalize (r + b - 1) / b = q at *
    clear hR hq1 hq hi1 hi hw1 hw4
    go_enter Tryd.func53, Tryd.ntmps53
    go_wp2_with (first
      | (refine wpList_box_blk (w := w) rfl 23 _ rfl _ rfl ?_; intro u1 qu1 gu1 zu1; have b1 : Below w.heap.size w u1 := (Below.refl _ w).grown gu1 (Nat.le_refl _) (by simp); clear gu1 zu1)
      | (refine wpList_load_blk (w := u1) rfl 23 _ rfl (w.heap.size) 4 rfl 23 _ qu1 _ Tryd.underlying23 rfl (by kernel_rfl) rfl ?_))
    refine (Sp.right_any r k b wk u1).mono ?_
    rintro e w2 ⟨rfl, b2⟩
    rw [HR.out]
    have q1 := qu1.after b2
    have b2 := b1.trans (b2.mono b1.size)
    have hc0 := q1.cell (i := 0) rfl
    have hc1 := q1.cell (i := 1) rfl
    have hc2 := q1.cell (i := 2) rfl
    clear b1 q1 qu1
    go_wp2_with (first
      | (refine wpList_fld0 (w := w2) rfl rfl rfl Tryd.underlying23 rfl (by kernel_rfl) ?_))
    refine (HP w2).mono ?_
    rintro e w3 ⟨rfl, rfl⟩
    go_wp2_with fail
    go_ret2
    exact ⟨rfl, b2⟩
  · have HR := Lib.hid (show Sp.rightE r k b wk = 1 by rw [Sp.rightE, if_neg hR])
    have HI := Lib.hid (show inN r k b wk = 0 by rw [inN, if_neg hR])
    have HM := Lib.hid (show mN r k b wk = 0 by rw [mN, if_neg hR])
    rw [HI.out, HM.out]
    clear HI HM hR
    go_enter Tryd.func53, Tryd.ntmps53
    go_wp2_with (first
      | (refine wpList_box_blk (w := w) rfl 23 _ rfl _ rfl ?_; intro u1 qu1 gu1 zu1; have b1 : Below w.heap.size w u1 := (Below.refl _ w).grown gu1 (Nat.le_refl _) (by simp); clear gu1 zu1)
      | (refine wpList_load_blk (w := u1) rfl 23 _ rfl (w.heap.size) 4 rfl 23 _ qu1 _ Tryd.underlying23 rfl (by kernel_rfl) rfl ?_))
    refine (Sp.right_any r k b wk u1).mono ?_
    rintro e w2 ⟨rfl, b2⟩
    rw [HR.out]
    have b2 := b1.trans (b2.mono b1.size)
    clear b1 qu1
    go_wp2_with fail
    go_ret2
    exact ⟨rfl, b2⟩
set_option maxRecDepth 100000 in
set_option maxHeartbeats 4000000 in
theorem jobOf_any (r k b wk : Int) (w : World) :
    Calls Tryd.prog 33 #[.agg #[.int .i64 r, .int .i64 k, .int .i64 b, .int .i64 wk]] w fun e w' => e = .returned (.agg #[.int .i64 k, .int .i64 (inN r k b wk : Int), .int .i64 (mN r k b wk : Int)]) ∧ Below w.heap.size w w' := by
  have HB := fun W => blocks_any r k b wk W
  generalize inN r k b wk = I at *
  generalize mN r k b wk = M at *
  go_enter Tryd.func33, Tryd.ntmps33
  go_wp2_with (first
    | (refine wpList_box_blk (w := w) rfl 23 _ rfl _ rfl ?_; intro u1 qu1 gu1 zu1)
    | (refine wpList_alloc_blk (w := u1) rfl 62 rfl #[.int .i64 0, .int .i64 0, .int .i64 0] (by kernel_rfl) ?_; intro u2 qu2 gu2 zu2; have q1 := qu1.grown gu2 (by simp); have b2 : Below w.heap.size w u2 := ((Below.refl _ w).grown gu1 (Nat.le_refl _) (by simp)).grown gu2 gu1.size (by simp); have l1 : w.heap.size < u1.heap.size := qu1.lt)
    | (refine wpList_load_blk (w := u2) rfl 23 _ rfl (w.heap.size) 4 rfl 23 _ q1 _ Tryd.underlying23 rfl (by kernel_rfl) rfl ?_))
  refine (HB u2).mono ?_
  rintro e w3 ⟨rfl, b3⟩
  have q1 := q1.after b3
  have q2 := qu2.after b3
  have b3 := b2.trans (b3.mono b2.size)
  have hc1 := q1.cell (i := 1) rfl
  generalize u1.heap.size = gj at *
  clear gu1 gu2 zu1 zu2 qu1 qu2 b2 HB
  go_wp2_with (first
    | (refine wpList_fld0 (w := w3) rfl rfl rfl Tryd.underlying23 rfl (by kernel_rfl) ?_)
    | (refine wpList_build_blk rfl 62 #[_, _, _] rfl #[.int .i64 k, .int .i64 (I : Int), .int .i64 (M : Int)] (by kernel_rfl) ?_)
    | (refine wpList_store_blk (w := w3) rfl 62 _ _ rfl (gj) 3 rfl 62 _ #[.int .i64 k, .int .i64 (I : Int), .int .i64 (M : Int)] rfl q2 (by kernel_rfl) rfl rfl (by kernel_rfl) ?_; intro u4 qu4 gu4 zu4))
  exact bodyPost_ret (results_blk rfl _ _ gj 3 _ _ rfl qu4 _ Tryd.underlying62 rfl (by kernel_rfl) rfl) rfl ⟨rfl, b3.grown gu4 b3.size (fun r e => by cases e; omega)⟩
theorem mul_i64 {K : Int} {I mp M T : Nat} (h : JobP K I mp M T) : IntKind.i64.wrap (K * (I : Int)) = (mp : Int) := by
  rw [h.e, IntKind.wrap_i64]
  have := h.le
  have := h.m32
  omega
set_option maxRecDepth 100000 in
set_option maxHeartbeats 4000000 in
theorem mapped_any (K : Int) (I mp M T : Nat) (h : JobP K I mp M T) (w : World) :
    Calls Tryd.prog 66 #[.agg #[.int .i64 K, .int .i64 (I : Int), .int .i64 (M : Int)]] w fun e w' => e = .returned (.int .i64 (mp : Int)) ∧ Below w.heap.size w w' := by
  have HW := mul_i64 h
  clear h
  go_enter Tryd.func66, Tryd.ntmps66
  go_wp2_with (first
    | (refine wpList_box_blk (w := w) rfl 62 _ rfl _ rfl ?_; intro u1 qu1 gu1 zu1; have b1 : Below w.heap.size w u1 := (Below.refl _ w).grown gu1 (Nat.le_refl _) (by simp); have hc0 := qu1.cell (i := 0) rfl; have hc1 := qu1.cell (i := 1) rfl; clear gu1 zu1)
    | (refine wpList_fld0 (w := u1) rfl rfl rfl Tryd.underlying62 rfl (by kernel_rfl) ?_)
    | (refine Held.wpList_run (w := u1) rfl (v := .int .i64 (mp : Int)) (Held.y_int (S := fun _ => True) rfl rfl rfl (Held.run_mul 3 .i64 HW) _ trivial) ?_))
  go_ret
  exact ⟨rfl, b1⟩
set_option maxRecDepth 100000 in
set_option maxHeartbeats 4000000 in
theorem nrounds_any (K : Int) (I mp M T : Nat) (h : JobP K I mp M T) (w : World) (hT : Bi.TzT w) :
    Calls Tryd.prog 50 #[.agg #[.int .i64 K, .int .i64 (I : Int), .int .i64 (M : Int)]] w fun e w' => e = .returned (.int .i64 (T : Int)) ∧ Below w.heap.size w w' := by
  have HR := fun W hT => Bi.rounds_any (M : Int) W (by omega) (by have := h.m32; omega) hT
  rw [h.T] at HR
  clear h
  go_enter Tryd.func50, Tryd.ntmps50
  go_wp2_with (first
    | (refine wpList_box_blk (w := w) rfl 62 _ rfl _ rfl ?_; intro u1 qu1 gu1 zu1; have b1 : Below w.heap.size w u1 := (Below.refl _ w).grown gu1 (Nat.le_refl _) (by simp); have hc2 := qu1.cell (i := 2) rfl; clear gu1 zu1)
    | (refine wpList_fld0 (w := u1) rfl rfl rfl Tryd.underlying62 rfl (by kernel_rfl) ?_))
  refine (HR u1 (hT.below b1 hT.lt)).mono ?_
  rintro e w2 ⟨rfl, rfl⟩
  go_wp2_with fail
  go_ret
  exact ⟨rfl, b1⟩
set_option maxRecDepth 100000 in
set_option maxHeartbeats 4000000 in
theorem roundsOf_any (K : Int) (I mp M T c : Nat) (h : JobP K I mp M T) (h1 : 1 ≤ c) (h5 : c ≤ 5) (w : World) (hT : Bi.TzT w) :
    Calls Tryd.prog 55 #[.agg #[.int .i64 K, .int .i64 (I : Int), .int .i64 (M : Int)], .int .i64 (c : Int)] w fun e w' => e = .returned (.tuple #[.int .i64 (frK c : Int), .int .i64 ((if c = 3 ∨ c = 5 then T else 0 : Nat) : Int)]) ∧ Below w.heap.size w w' := by
  have HR := fun W hT => nrounds_any K I mp M T h W hT
  clear h
  have hc : c = 1 ∨ c = 2 ∨ c = 3 ∨ c = 4 ∨ c = 5 := by omega
  go_enter Tryd.func55, Tryd.ntmps55
  rcases hc with rfl | rfl | rfl | rfl | rfl
  case inl | inr.inl | inr.inr.inr.inl =>
    go_wp2_with (first
      | (refine wpList_box_blk (w := w) rfl 62 _ rfl _ rfl ?_; intro u1 qu1 gu1 zu1; have b1 : Below w.heap.size w u1 := (Below.refl _ w).grown gu1 (Nat.le_refl _) (by simp); clear gu1 zu1))
    go_ret2
    exact ⟨rfl, b1⟩
  all_goals
    go_wp2_with (first
      | (refine wpList_box_blk (w := w) rfl 62 _ rfl _ rfl ?_; intro u1 qu1 gu1 zu1; have b1 : Below w.heap.size w u1 := (Below.refl _ w).grown gu1 (Nat.le_refl _) (by simp); clear gu1 zu1)
      | (refine wpList_load_blk (w := u1) rfl 62 _ rfl (w.heap.size) 3 rfl 62 _ qu1 _ Tryd.underlying62 rfl (by kernel_rfl) rfl ?_))
    refine (HR u1 (hT.below b1 hT.lt)).mono ?_
    rintro e w2 ⟨rfl, b2⟩
    have b2 := b1.trans (b2.mono b1.size)
    go_wp2_with fail
    go_ret2
    exact ⟨rfl, b2⟩
end Go.Proofs.YtipmfficjomcoaaDoor.Sh
