/-
  The rounds of a network as plain numbers: how many places it has, which stage and step a round is, which pairs are up; what the bits of a place are: no program here.
  Package bitonic: Padded, stages, Rounds, apart, lower, by their contracts.
  Package bitonic: which stage and step a round is, and whether a pair is up, by their contracts.
  Package bitonic's iterator over a round's pairs, by its contract: it hands out the first places, rising, each with the second one.
  dominohelp.Stops of package bitonic's iterator: told to stop behind so many pairs it hands out no more.
  A region that draws its order and in the end stores into what it has loaded: what is loaded ahead of a store that waits for it may be taken first, as long as a condition holds till that store.
  dominohelp.Seq2 of package bitonic's iterator: the first places of a round's pairs, and the second ones, as two lists of the call's own.
  dominohelp.Seq2 of package bitonic's iterator, by its contract.
  dominohelp.Plain of lists of numbers, and the document's own answers for package bitonic, by their contracts.
  The document's own answers for package bitonic: which stage and step a round is, which pairs it has, and which of them are up, by their contracts.
  Package merge's iterator over every other place, by its contract: it hands out the places f, f + 2, .., till there is none or it is told to stop.
-/
import Derived.Test.YtlinmcgmkpkpaaaDoorB7
import Derived.Test.YtlinmcgmkpkpaaaDoorB1
import Derived.Test.YtlinmcgmkpkpaaaDoorB2
import Derived.Test.YtlinmcgmkpkpaaaDoorB4
import Derived.Test.YtlinmcgmkpkpaaaDoorB5
import Derived.Test.YtlinmcgmkpkpaaaDoorB3
set_option linter.unusedVariables false
namespace Go.Proofs.YtlinmcgmkpkpaaaDoor.Bi
open Go.RowKit
def padF : Nat → Nat → Int → Nat
  | 0, k, _ => k
  | f + 1, k, n => if (2 : Int) ^ k < n then padF f (k + 1) n else k
def padS (n : Int) : Nat := padF 16 0 n
def padV (n : Int) : Int := 2 ^ padS n
def stg (n : Int) : Nat := if padV n = n then padS n else 0
def tri (s : Nat) : Nat := s * (s + 1) / 2
theorem padF_le : ∀ (f k : Nat) (n : Int), k ≤ padF f k n ∧ padF f k n ≤ k + f
  | 0, k, n => by simp [padF]
  | f + 1, k, n => by
    unfold padF
    split
    · have := padF_le f (k + 1) n; omega
    · omega
theorem padS_le (n : Int) : padS n ≤ 16 := by have := padF_le 16 0 n; unfold padS; omega
theorem two_mono {a b : Nat} (h : a ≤ b) : (2 : Int) ^ a ≤ 2 ^ b := by
  have := Nat.pow_le_pow_right (n := 2) (by omega) h
  exact_mod_cast this
theorem two_pos (a : Nat) : (1 : Int) ≤ 2 ^ a := by have := two_mono (Nat.zero_le a); simpa using this
theorem two_16 {a : Nat} (h : a ≤ 16) : (2 : Int) ^ a ≤ 65536 := by have := two_mono h; simpa using this
theorem two_succ (a : Nat) : (2 : Int) ^ (a + 1) = 2 * 2 ^ a := by rw [Int.pow_succ]; omega
theorem two_nat (a : Nat) : (2 : Int) ^ a = ((2 ^ a : Nat) : Int) := by simp
theorem padF_pow : ∀ (f k s : Nat), k ≤ s → s ≤ k + f → padF f k (2 ^ s) = s
  | 0, k, s => by intro h1 h2; simp [padF]; omega
  | f + 1, k, s => by
    intro h1 h2
    unfold padF
    split
    · rename_i h
      have : k ≠ s := by rintro rfl; omega
      exact padF_pow f (k + 1) s (by omega) (by omega)
    · rename_i h
      rcases Nat.lt_or_ge k s with c | c
      · have := two_mono (show k + 1 ≤ s by omega)
        rw [two_succ] at this
        have := two_pos k
        omega
      · omega
theorem padS_pow {s : Nat} (h : s ≤ 16) : padS (2 ^ s) = s := padF_pow 16 0 s (by omega) (by omega)
theorem padV_pow {s : Nat} (h : s ≤ 16) : padV (2 ^ s) = 2 ^ s := by unfold padV; rw [padS_pow h]
theorem stg_pow {s : Nat} (h : s ≤ 16) : stg (2 ^ s) = s := by unfold stg; rw [if_pos (padV_pow h), padS_pow h]
theorem stg_le (n : Int) : stg n ≤ 16 := by unfold stg; split; exact padS_le n; omega
theorem stg_is (n : Int) : n = 2 ^ stg n ∨ (stg n = 0 ∧ padV n ≠ n) := by
  unfold stg
  split
  · rename_i h; exact .inl h.symm
  · rename_i h; exact .inr ⟨rfl, h⟩
theorem tri_zero : tri 0 = 0 := rfl
theorem tri_succ (s : Nat) : tri (s + 1) = tri s + (s + 1) := by
  unfold tri
  have h : (s + 1) * (s + 1 + 1) = s * (s + 1) + 2 * (s + 1) := by
    rw [show s + 1 + 1 = s + 2 by omega, Nat.mul_add, Nat.mul_comm (s + 1) s]; omega
  rw [h]; omega
theorem tri_mono {a b : Nat} (h : a ≤ b) : tri a ≤ tri b := by
  induction b with
  | zero => have : a = 0 := by omega
            subst this; exact Nat.le_refl _
  | succ b ih =>
    rcases Nat.lt_or_ge a (b + 1) with c | c
    · have := ih (by omega); rw [tri_succ]; omega
    · have : a = b + 1 := by omega
      subst this; exact Nat.le_refl _
theorem tri_le {s : Nat} (h : s ≤ 16) : tri s ≤ 136 := tri_mono h
structure Stp (S : Nat) (r : Int) (s t : Nat) : Prop where
  t1 : 1 ≤ t
  ts : t ≤ s
  sS : s ≤ S
  e : r = ((tri (s - 1) + (s - t) : Nat) : Int)
theorem Stp.lt {S : Nat} {r : Int} {s t : Nat} (h : Stp S r s t) : 0 ≤ r ∧ r < (tri S : Int) := by
  obtain ⟨h1, h2, h3, h4⟩ := h
  obtain ⟨q, rfl⟩ : ∃ q, s = q + 1 := ⟨s - 1, by omega⟩
  have := tri_mono h3
  rw [tri_succ] at this
  simp only [Nat.add_sub_cancel] at h4
  omega
theorem Stp.unique {S : Nat} {r : Int} {s t s' t' : Nat} (h : Stp S r s t) (h' : Stp S r s' t') : s = s' ∧ t = t' := by
  obtain ⟨h1, h2, h3, h4⟩ := h
  obtain ⟨k1, k2, k3, k4⟩ := h'
  obtain ⟨q, rfl⟩ : ∃ q, s = q + 1 := ⟨s - 1, by omega⟩
  obtain ⟨q', rfl⟩ : ∃ q, s' = q + 1 := ⟨s' - 1, by omega⟩
  simp only [Nat.add_sub_cancel] at h4 k4
  rcases Nat.lt_trichotomy q q' with c | c | c
  · have := tri_mono (show q + 1 ≤ q' by omega)
    rw [tri_succ] at this
    omega
  · subst c; omega
  · have := tri_mono (show q' + 1 ≤ q by omega)
    rw [tri_succ] at this
    omega
def Found (S : Nat) (r : Int) (s t : Nat) (ok : Bool) : Prop := (ok = true ∧ Stp S r s t) ∨ (ok = false ∧ s = 0 ∧ t = 0 ∧ ¬ (0 ≤ r ∧ r < (tri S : Int)))
def upV (n : Int) (s t : Nat) (ok : Bool) (a : Int) : Bool := ok && decide (0 ≤ a) && decide (a < n) && decide (a / 2 ^ (t - 1) % 2 = 0) && decide (a / 2 ^ s % 2 = 0)
theorem and_pow (a k : Nat) : a &&& 2 ^ k = if a / 2 ^ k % 2 = 0 then 0 else 2 ^ k := by
  apply Nat.eq_of_testBit_eq
  intro i
  rw [Nat.testBit_and, Nat.testBit_two_pow]
  have hk : a.testBit k = decide (a / 2 ^ k % 2 = 1) := Nat.testBit_eq_decide_div_mod_eq
  by_cases h : a / 2 ^ k % 2 = 0
  · rw [if_pos h, Nat.zero_testBit]
    by_cases e : k = i
    · subst e; rw [hk, h]; rfl
    · simp [e]
  · rw [if_neg h, Nat.testBit_two_pow]
    by_cases e : k = i
    · subst e; rw [hk, show a / 2 ^ k % 2 = 1 by omega]; simp
    · simp [e]
theorem i64_and_nat (a b : Nat) (ha : a < 9223372036854775808) (hb : b < 9223372036854775808) : bits .and .i64 (a : Int) (b : Int) = ((a &&& b : Nat) : Int) := by
  have hlt : a &&& b < 9223372036854775808 := Nat.lt_of_le_of_lt Nat.and_le_left ha
  have key : (BitVec.ofInt 64 (a : Int) &&& BitVec.ofInt 64 (b : Int)).toNat = a &&& b := by
    rw [BitVec.toNat_and, BitVec.toNat_ofInt, BitVec.toNat_ofInt]
    have e1 : ((a : Int) % ((2 ^ 64 : Nat) : Int)).toNat = a := by omega
    have e2 : ((b : Int) % ((2 ^ 64 : Nat) : Int)).toNat = b := by omega
    rw [e1, e2]
  show IntKind.i64.wrap ((BitVec.ofInt 64 (a : Int) &&& BitVec.ofInt 64 (b : Int)).toNat : Nat) = _
  rw [key, IntKind.wrap_i64]
  omega
theorem bit_of {a : Int} {k : Nat} (h0 : 0 ≤ a) (h1 : a < 9223372036854775808) (hk : k ≤ 16) : bits .and .i64 a (2 ^ k) = if a / 2 ^ k % 2 = 0 then 0 else 2 ^ k := by
  obtain ⟨n, rfl⟩ := Int.eq_ofNat_of_zero_le h0
  have := two_16 hk
  rw [two_nat] at this
  rw [two_nat, i64_and_nat _ _ (by omega) (by omega), and_pow, ← Int.natCast_ediv, show ((n / 2 ^ k : Nat) : Int) % 2 = ((n / 2 ^ k % 2 : Nat) : Int) by omega]
  by_cases h : n / 2 ^ k % 2 = 0
  · rw [if_pos h, if_pos (by omega)]; rfl
  · rw [if_neg h, if_neg (by omega)]
theorem bit_zero {a : Int} {k : Nat} (h0 : 0 ≤ a) (h1 : a < 9223372036854775808) (hk : k ≤ 16) : decide (bits .and .i64 a (2 ^ k) = 0) = decide (a / 2 ^ k % 2 = 0) := by
  rw [bit_of h0 h1 hk]
  have := two_pos k
  by_cases h : a / 2 ^ k % 2 = 0
  · rw [if_pos h]; simp [h]
  · rw [if_neg h]; simp [h]; omega
theorem bit_one {a : Int} (h0 : 0 ≤ a) (h1 : a < 9223372036854775808) : decide (bits .and .i64 a 1 = 0) = decide (a % 2 = 0) := by
  have := bit_zero (k := 0) h0 h1 (by omega)
  simpa using this
end Go.Proofs.YtlinmcgmkpkpaaaDoor.Bi
namespace Go.Proofs.YtlinmcgmkpkpaaaDoor.Bi
open Go.RowKit Go.Shelf Go.Proofs.YtlinmcgmkpkpaaaDoor Mem Held
attribute [local go_sem] Oper.semAt_some
attribute [local irreducible] wpList wpListIn Calls
def tzT : List Int := [0, 1, 56, 2, 57, 49, 28, 3, 61, 58, 42, 50, 38, 29, 17, 4, 62, 47, 59, 36, 45, 43, 51, 22, 53, 39, 33, 30, 24, 18, 12, 5, 63, 55, 48, 27, 60, 41, 37, 16, 46, 35, 44, 21, 52, 32, 23, 11, 54, 26, 40, 15, 34, 20, 31, 10, 25, 14, 19, 9, 13, 8, 7, 6]
def TzT (w : World) : Prop := Po.TabK w 1 .u8 tzT
theorem y_neg_ {P : Program} {S : World → Prop} {ρ : Operand → Value} {o : Oper} {t ty : TypeId} {x : Operand} {k : IntKind} {a r : Int} (ho : o.op = .unOp .neg t x) (hx : ρ x = .int k a) (hr : k.wrap (-a) = r) :
    ∀ w, S w → (execOp ρ o).run P w = .ok (.value (.int k r)) w := fun w _ => by
  subst hr
  simp [execOp, ho, hx, Op.unary, Op.intArith]
set_option maxRecDepth 100000 in
set_option maxHeartbeats 2000000 in
theorem padded_any (n : Int) (w : World) (h0 : -9223372036854775808 ≤ n) (h1 : n ≤ 9223372036854775807) :
    Calls Tryd.prog 29 #[.int .i64 n] w fun e w' => e = .returned (.int .i64 (padV n)) ∧ w = w' := by
  go_enter Tryd.func29, Tryd.ntmps29
  go_wp2_with fail
  go_loopw [3] (fun v wr => ∃ (k : Nat) (p : Int), v = .int .i64 p ∧ Hid (p = 2 ^ k) ∧ k ≤ 16 ∧ Hid (padF (16 - k) k n = padS n) ∧ w = wr) (fun v _ => (70000 - intOf v).toNat)
  case atStart => exact ⟨0, 1, rfl, Lib.hid (by simp), by omega, Lib.hid rfl, rfl⟩
  case round =>
    obtain ⟨k, p, rfl, hp, hk, hf, rfl⟩ := hrel
    have p1 : 1 ≤ p := by rw [hp.out]; exact two_pos k
    have p2 : p ≤ 65536 := by rw [hp.out]; exact two_16 hk
    by_cases c1 : p < n
    · by_cases c2 : p < 65536
      · have k16 : k < 16 := by
          rcases Nat.lt_or_ge k 16 with c | c
          · exact c
          · have : k = 16 := by omega
            have := hp.out
            subst k
            omega
        have HN := Lib.hid (show padF (16 - (k + 1)) (k + 1) n = padS n by
          rw [← hf.out, show 16 - k = (16 - (k + 1)) + 1 by omega]
          rw [hp.out] at c1
          conv => rhs; rw [padF, if_pos c1])
        have HP := Lib.hid (show p * 2 = 2 ^ (k + 1) by rw [hp.out, two_succ]; omega)
        go_wp2_with fail
        go_roundw
        case rel => exact ⟨k + 1, p * 2, by go_num, HP, by omega, HN, trivial⟩
        case measure => simp [intOf]; omega
      · have k16 : k = 16 := by
          rcases Nat.lt_or_ge k 16 with c | c
          · have := two_mono (show k ≤ 15 by omega)
            have h15 : (2 : Int) ^ 15 = 32768 := by decide
            rw [← hp.out] at this
            omega
          · omega
        have HN := Lib.hid (show p = padV n by
          have := hf.out
          rw [k16] at this
          unfold padV
          rw [← this, hp.out, k16]
          rfl)
        go_wp2_with fail
        go_ret
        exact ⟨by rw [HN.out]; rfl, rfl⟩
    · have HN := Lib.hid (show p = padV n by
        have := hf.out
        unfold padV
        rw [← this, hp.out]
        rw [hp.out] at c1
        cases hq : 16 - k with
        | zero => rfl
        | succ q => rw [padF, if_neg c1])
      go_wp2_with fail
      go_ret
      exact ⟨by rw [HN.out]; rfl, rfl⟩
theorem apart_any (t : Nat) (w : World) (h1 : 1 ≤ t) (h2 : t ≤ 16) :
    Calls Tryd.prog 85 #[.int .i64 (t : Int)] w fun e w' => e = .returned (.int .i64 (2 ^ (t - 1))) ∧ w = w' := by
  have hr := fun W : World => Rc.run_shl_ (P := Tryd.prog) 3 .i64 .i64 (a := 1) (t - 1) (by show t - 1 ≤ 64; omega) W
  have h3 := two_pos (t - 1)
  have h4 := two_16 (show t - 1 ≤ 16 by omega)
  rw [show (1 : Int) * 2 ^ (t - 1) = 2 ^ (t - 1) by omega] at hr
  obtain ⟨d, hd⟩ : ∃ d : Int, 2 ^ (t - 1) = d := ⟨_, rfl⟩
  rw [hd] at h3 h4 hr ⊢
  rw [show IntKind.i64.wrap d = d by rw [IntKind.wrap_i64]; omega] at hr
  have ht : IntKind.i64.wrap ((t : Int) - 1) = ((t - 1 : Nat) : Int) := by rw [IntKind.wrap_i64]; omega
  clear hd
  go_enter Tryd.func85, Tryd.ntmps85
  go_wp2_with (first
    | (refine Held.wpList_run (w := w) rfl (v := .int .i64 ((t - 1 : Nat) : Int)) (Held.y_int (S := fun _ => True) rfl rfl rfl (Held.run_sub 3 .i64 ht) _ trivial) ?_)
    | (refine Held.wpList_run (w := w) rfl (v := .int .i64 d) (Held.y_bin (S := fun _ => True) rfl rfl rfl (fun W => by simp [eqGuard]) hr _ trivial) ?_))
  go_ret
  exact ⟨rfl, rfl⟩
theorem lower_any (a : Int) (t : Nat) (w : World) (ha : 0 ≤ a) (ha' : a < 9223372036854775808) (h1 : 1 ≤ t) (h2 : t ≤ 16) :
    Calls Tryd.prog 84 #[.int .i64 a, .int .i64 (t : Int)] w fun e w' => e = .returned (.bool (decide (a / 2 ^ (t - 1) % 2 = 0))) ∧ w = w' := by
  have hb := bit_zero ha ha' (show t - 1 ≤ 16 by omega)
  rw [← hb]
  have HA := fun W => apart_any t W h1 h2
  obtain ⟨d, hd⟩ : ∃ d : Int, 2 ^ (t - 1) = d := ⟨_, rfl⟩
  rw [hd] at HA ⊢
  clear hd hb
  go_enter Tryd.func84, Tryd.ntmps84
  go_wp2_with fail
  refine (HA w).mono ?_
  rintro e w1 ⟨rfl, rfl⟩
  go_wp2_with (refine Held.wpList_run (w := w) rfl (v := .int .i64 (bits .and .i64 a d)) (Held.y_int (S := fun _ => True) rfl rfl rfl (Held.run_bitop (by simp) 3 .i64 rfl) _ trivial) ?_)
  go_ret
  exact ⟨Mem.ret_bool rfl, rfl⟩
theorem tz_index : ∀ s : Fin 17, (bits .and .u64 (2 ^ s.val) (IntKind.u64.wrap (-(2 ^ s.val)))) = 2 ^ s.val ∧ IntKind.u64.wrap (2 ^ s.val * 285870213051353865) / 2 ^ 58 = ((IntKind.u64.wrap (2 ^ s.val * 285870213051353865) / 2 ^ 58).toNat : Nat) ∧
    (IntKind.u64.wrap (2 ^ s.val * 285870213051353865) / 2 ^ 58).toNat < 64 ∧ tzT.getD (IntKind.u64.wrap (2 ^ s.val * 285870213051353865) / 2 ^ 58).toNat 0 = (s.val : Int) := by decide +kernel
set_option maxRecDepth 100000 in
set_option maxHeartbeats 2000000 in
theorem tz_any (s : Nat) (w : World) (hs : s ≤ 16) (hT : TzT w) :
    Calls Tryd.prog 80 #[.int .u64 (2 ^ s)] w fun e w' => e = .returned (.int .i64 (s : Int)) ∧ w = w' := by
  obtain ⟨e1, e2, e3, e4⟩ := tz_index ⟨s, by omega⟩
  simp only at e1 e2 e3 e4
  have p1 := two_pos s
  have p2 := two_16 hs
  obtain ⟨x, hx⟩ : ∃ x : Int, 2 ^ s = x := ⟨_, rfl⟩
  rw [hx] at p1 p2 e1 e2 e3 e4 ⊢
  obtain ⟨m, hm⟩ : ∃ m : Int, IntKind.u64.wrap (x * 285870213051353865) = m := ⟨_, rfl⟩
  rw [hm] at e2 e3 e4
  obtain ⟨j, hj⟩ : ∃ j : Nat, (m / 2 ^ 58).toNat = j := ⟨_, rfl⟩
  rw [hj] at e2 e3 e4
  have hc := Po.TabK.cell hT (i := j) (by simpa [tzT] using e3)
  rw [e4] at hc
  have hsh := fun W : World => Held.run_shr (P := Tryd.prog) 23 .u64 .u64 (a := m) (r := (j : Int)) 58 (by decide) e2 W
  obtain ⟨ng, hng⟩ : ∃ ng : Int, IntKind.u64.wrap (-x) = ng := ⟨_, rfl⟩
  rw [hng] at e1
  have x0 : ¬ x = 0 := by omega
  have hw : IntKind.i64.wrap (s : Int) = (s : Int) := by rw [IntKind.wrap_i64]; omega
  have hidx := fun W : World => Held.run_addr_arr (P := Tryd.prog) 145 5 64 1 j .u64 Tryd.underlying145 (by kernel_rfl) e3 W
  have HS := Lib.hid hs
  clear hs hj e2 hx p2
  go_enter Tryd.func80, Tryd.ntmps80
  go_wp2_with (first
    | (refine Held.wpList_run (w := w) rfl (v := .int .u64 ng) (y_neg_ (S := fun _ => True) rfl rfl hng _ trivial) ?_)
    | (refine Held.wpList_run (w := w) rfl (v := .int .u64 x) (Held.y_int (S := fun _ => True) rfl rfl rfl (Held.run_bitop (by simp) 23 .u64 e1) _ trivial) ?_)
    | (refine Held.wpList_run (w := w) rfl (v := .int .u64 m) (Held.y_int (S := fun _ => True) rfl rfl rfl (Held.run_mul 23 .u64 hm) _ trivial) ?_)
    | (refine Held.wpList_run (w := w) rfl (v := .int .u64 (j : Int)) (Held.y_bin (S := fun _ => True) rfl rfl rfl (fun W => by simp [eqGuard]) hsh _ trivial) ?_)
    | (refine Held.wpList_run (w := w) rfl (v := .pointer (some ⟨1, j, none⟩)) (Held.y_addr (S := fun _ => True) rfl rfl rfl hidx _ trivial) ?_)
    | (refine Held.wpList_run (w := w) rfl (v := .int .u8 (s : Int)) (Held.y_load (S := fun W => W = w) rfl rfl (by kernel_rfl) (fun W hW => by rw [hW]; exact hc) _ rfl) ?_))
  go_ret
  exact ⟨rfl, rfl⟩
theorem tzs_any (s : Nat) (w : World) (hs : s ≤ 16) (hT : TzT w) :
    Calls Tryd.prog 61 #[.int .u64 (2 ^ s)] w fun e w' => e = .returned (.int .i64 (s : Int)) ∧ w = w' := by
  have H := tz_any s w hs hT
  have p1 := two_pos s
  have p2 := two_16 hs
  obtain ⟨x, hx⟩ : ∃ x : Int, 2 ^ s = x := ⟨_, rfl⟩
  rw [hx] at p1 p2 H ⊢
  clear hx
  go_enter Tryd.func61, Tryd.ntmps61
  go_wp2_with fail
  refine H.mono ?_
  rintro e w1 ⟨rfl, rfl⟩
  go_wp2_with fail
  go_ret
  exact ⟨rfl, rfl⟩
theorem stages_any (n : Int) (w : World) (h0 : -9223372036854775808 ≤ n) (h1 : n ≤ 9223372036854775807) (hT : TzT w) :
    Calls Tryd.prog 49 #[.int .i64 n] w fun e w' => e = .returned (.int .i64 (stg n : Int)) ∧ w = w' := by
  have H := fun W => padded_any n W h0 h1
  by_cases hp : padV n = n
  · have hs : stg n = padS n := by unfold stg; rw [if_pos hp]
    have hn : n = 2 ^ padS n := hp.symm
    have HZ := tzs_any (padS n) w (padS_le n) hT
    rw [← hn] at HZ
    have p1 := two_pos (padS n)
    have p2 := two_16 (padS_le n)
    rw [← hn] at p1 p2
    rw [hp] at H
    rw [hs]
    have hwr : IntKind.u64.wrap n = n := by rw [IntKind.wrap_u64]; omega
    generalize padS n = q at *
    clear hn hp hs
    go_enter Tryd.func49, Tryd.ntmps49
    go_wp2_with fail
    refine (H w).mono ?_
    rintro e w1 ⟨rfl, rfl⟩
    go_wp2_with fail
    refine HZ.mono ?_
    rintro e w1 ⟨rfl, rfl⟩
    go_wp2_with fail
    go_ret
    exact ⟨rfl, rfl⟩
  · have hs : stg n = 0 := by unfold stg; rw [if_neg hp]
    rw [hs]
    generalize padV n = v at *
    go_enter Tryd.func49, Tryd.ntmps49
    go_wp2_with fail
    refine (H w).mono ?_
    rintro e w1 ⟨rfl, rfl⟩
    go_wp2_with fail
    go_ret
    exact ⟨rfl, rfl⟩
theorem rounds_any (n : Int) (w : World) (h0 : -9223372036854775808 ≤ n) (h1 : n ≤ 9223372036854775807) (hT : TzT w) :
    Calls Tryd.prog 35 #[.int .i64 n] w fun e w' => e = .returned (.int .i64 (tri (stg n) : Int)) ∧ w = w' := by
  have H := stages_any n w h0 h1 hT
  have h16 := stg_le n
  have htri : tri (stg n) = stg n * (stg n + 1) / 2 := rfl
  rw [htri]
  generalize stg n = q at *
  clear htri hT h0 h1
  have b : q * (q + 1) ≤ 16 * 17 := Nat.mul_le_mul h16 (by omega)
  obtain ⟨m, hm⟩ : ∃ m, q * (q + 1) = m := ⟨_, rfl⟩
  have hmul : IntKind.i64.wrap ((q : Int) * ((q : Int) + 1)) = (m : Int) := by
    rw [show (q : Int) * ((q : Int) + 1) = (m : Int) by rw [← hm]; simp, IntKind.wrap_i64]; omega
  rw [hm] at b ⊢
  clear hm
  have hq := Held.run_quo (P := Tryd.prog) 3 .i64 (a := (m : Int)) (b := 2) (r := ((m / 2 : Nat) : Int)) (by omega) (by rw [Int.tdiv_eq_ediv_of_nonneg (by omega), IntKind.wrap_i64]; omega)
  go_enter Tryd.func35, Tryd.ntmps35
  go_wp2_with fail
  refine H.mono ?_
  rintro e w1 ⟨rfl, rfl⟩
  go_wp2_with (first
    | (refine Held.wpList_run (w := w) rfl (v := .int .i64 (m : Int)) (Held.y_int (S := fun _ => True) rfl rfl rfl (Held.run_mul 3 .i64 hmul) _ trivial) ?_)
    | (refine Held.wpList_run (w := w) rfl (v := .int .i64 ((m / 2 : Nat) : Int)) (Held.y_int (S := fun _ => True) rfl rfl rfl hq _ trivial) ?_))
  go_ret
  exact ⟨rfl, rfl⟩
end Go.Proofs.YtlinmcgmkpkpaaaDoor.Bi
namespace Go.Proofs.YtlinmcgmkpkpaaaDoor.Bi
open Go.RowKit Go.Shelf Go.Proofs.YtlinmcgmkpkpaaaDoor Mem Held
attribute [local go_sem] Oper.semAt_some
attribute [local irreducible] wpList wpListIn Calls
theorem Found.no {S : Nat} {r : Int} {s t : Nat} {ok : Bool} (h : Found S r s t ok) (hn : ¬ (0 ≤ r ∧ r < (tri S : Int))) : s = 0 ∧ t = 0 ∧ ok = false := by
  rcases h with ⟨h1, h2⟩ | ⟨h1, h2, h3, h4⟩
  · exact absurd h2.lt hn
  · exact ⟨h2, h3, h1⟩
theorem Found.yes {S : Nat} {r : Int} {s t s' t' : Nat} {ok : Bool} (h : Found S r s t ok) (ha : Stp S r s' t') : s = s' ∧ t = t' ∧ ok = true := by
  rcases h with ⟨h1, h2⟩ | ⟨h1, h2, h3, h4⟩
  · have := h2.unique ha
    exact ⟨this.1, this.2, h1⟩
  · exact absurd ha.lt h4
theorem results_tmp3 {fn : Func} {t u v : Tmp} (h : fn.results = #[.tmp t, .tmp u, .tmp v]) (tmps : Array Value) (P : Program) (w : World) :
    (results fn tmps).run P w = .ok (.tuple #[tmps.getD t undef, tmps.getD u undef, tmps.getD v undef]) w := by
  unfold results
  simp [h, go_sem]
set_option maxRecDepth 100000 in
set_option maxHeartbeats 4000000 in
theorem find_any (n r : Int) (S s t : Nat) (ok : Bool) (w : World) (h0 : -9223372036854775808 ≤ n) (h1 : n ≤ 9223372036854775807) (hT : TzT w) (hS : stg n = S) (hF : Found S r s t ok) :
    Calls Tryd.prog 83 #[.int .i64 n, .int .i64 r] w fun e w' => e = .returned (.tuple #[.int .i64 (s : Int), .int .i64 (t : Int), .bool ok]) ∧ w = w' := by
  have H := stages_any n w h0 h1 hT
  have hS16 := stg_le n
  rw [hS] at H hS16
  have HF := Lib.hid (fun hn => hF.no hn)
  have HY := Lib.hid (fun s' t' (ha : Stp S r s' t') => hF.yes ha)
  have HTS := Lib.hid tri_succ
  have HTL := Lib.hid (fun q (h : q ≤ 16) => tri_le h)
  have htri0 : (tri 0 : Int) = 0 := rfl
  clear hS hF hT h0 h1
  go_enter Tryd.func83, Tryd.ntmps83
  go_wp2_with fail
  apply wp_scope_straight
  go_wp2_with fail
  refine H.mono ?_
  rintro e w1 ⟨rfl, rfl⟩
  go_wp2_with fail
  apply wp_label
  go_wp2_with fail
  go_loopw [4, 5, 6, 7, 9] (fun x4 x5 x6 rd sv wr => ∃ q tq : Nat, x4 = .int .i64 0 ∧ x5 = .int .i64 0 ∧ x6 = .bool false ∧ rd = .int .i64 (tq : Int) ∧ Hid (tq = tri q) ∧ sv = .int .i64 ((q : Int) + 1) ∧ q ≤ S ∧ Hid (¬ (0 ≤ r ∧ r < (tri q : Int))) ∧ w = wr) (fun _ _ _ rd sv _ => (20 - intOf sv).toNat)
  case atStart => exact ⟨0, 0, rfl, rfl, rfl, by simp, Lib.hid rfl, rfl, by omega, Lib.hid (by rw [htri0]; omega), rfl⟩
  case round =>
    obtain ⟨q, tq, rfl, rfl, rfl, rfl, htq, rfl, hq, hr, rfl⟩ := hrel
    have htb : tq ≤ 136 := by rw [htq.out]; exact HTL.out q (by omega)
    by_cases hlt : q < S
    · have hlt' : (q : Int) + 1 ≤ (S : Int) := by omega
      go_wp2_with fail
      go_loopw [4, 5, 6, 7, 10] (fun x4 x5 x6 rd tv wr => ∃ j u : Nat, x4 = .int .i64 0 ∧ x5 = .int .i64 0 ∧ x6 = .bool false ∧ rd = .int .i64 (u : Int) ∧ Hid (u = tri q + (q + 1 - j)) ∧ u ≤ 200 ∧ tv = .int .i64 (j : Int) ∧ j ≤ q + 1 ∧ Hid (¬ (0 ≤ r ∧ r < (u : Int))) ∧ w = wr) (fun _ _ _ _ tv _ => (intOf tv).toNat)
      case atStart => exact ⟨q + 1, tq, rfl, rfl, rfl, rfl, Lib.hid (by rw [htq.out]; omega), by omega, by go_num, by omega, Lib.hid (by rw [htq.out]; exact hr.out), rfl⟩
      case round =>
        obtain ⟨j, u, rfl, rfl, rfl, rfl, hu, hu2, rfl, hj, hru, rfl⟩ := hrel
        by_cases hj1 : 1 ≤ j
        · have hj1' : (1 : Int) ≤ (j : Int) := by omega
          by_cases hur : (u : Int) = r
          · obtain ⟨e1, e2, e3⟩ := HY.out (q + 1) j ⟨hj1, hj, hlt, by rw [← hur, hu.out]; simp⟩
            have hd : decide ((u : Int) = r) = true := by simp [hur]
            subst e1 e2 e3
            go_wp2_with fail
            exact bodyPost_ret (results_tmp3 rfl _ _ _) rfl ⟨by simp, rfl⟩
          · go_wp2_with fail
            go_roundw
            case rel => exact ⟨j - 1, u + 1, rfl, rfl, rfl, by go_num, Lib.hid (by rw [hu.out]; omega), by have := hu.out; have := htq.out; omega, by go_num, by omega, Lib.hid (by have := hru.out; omega), trivial⟩
            case measure => simp [intOf]; omega
        · have hj0 : j = 0 := by omega
          subst hj0
          have HT := Lib.hid (show u = tri (q + 1) by rw [hu.out, HTS.out]; omega)
          go_wp2_with fail
          go_roundw
          case rel => exact ⟨q + 1, u, rfl, rfl, rfl, rfl, HT, by go_num, by omega, Lib.hid (by rw [← HT.out]; exact hru.out), trivial⟩
          case measure => simp [intOf]; omega
    · obtain rfl : q = S := by omega
      obtain ⟨rfl, rfl, rfl⟩ := HF.out hr.out
      go_wp2_with fail
      exact bodyPost_ret (results_tmp3 rfl _ _ _) rfl ⟨rfl, rfl⟩
theorem round_any (n r : Int) (w : World) : Calls Tryd.prog 64 #[.int .i64 n, .int .i64 r] w fun e w' => ∃ bn br : Nat, e = .returned (.func (.func 82) #[] #[.pointer (some ⟨bn, 0, none⟩), .pointer (some ⟨br, 0, none⟩)]) ∧
    Blk w' bn 3 #[.int .i64 n] ∧ Blk w' br 3 #[.int .i64 r] ∧ w.heap.size ≤ bn ∧ w.heap.size ≤ br ∧ Below w.heap.size w w' := by
  go_enter Tryd.func64, Tryd.ntmps64
  go_wp2_with (first
    | (refine Held.wpList_box_cell (w := w) rfl 3 _ rfl (.int .i64 n) rfl rfl ?_; intro u1 q1 g1 z1)
    | (refine Held.wpList_box_cell (w := u1) rfl 3 _ rfl (.int .i64 r) rfl rfl ?_; intro u2 q2 g2 z2))
  go_ret
  exact ⟨_, _, rfl, Held.keep_cells q1 g2 (by simp), q2, Nat.le_refl _, g1.size, ((Below.refl _ w).grown g1 (Nat.le_refl _) (by simp)).grown g2 g1.size (by simp)⟩
theorem Found.t1 {S : Nat} {r : Int} {s t : Nat} {ok : Bool} (h : Found S r s t ok) (h16 : S ≤ 16) (ho : ok = true) : 1 ≤ t ∧ t ≤ s ∧ s ≤ 16 := by
  rcases h with ⟨_, h2⟩ | ⟨h1, _⟩
  · exact ⟨h2.t1, h2.ts, Nat.le_trans h2.sS h16⟩
  · rw [ho] at h1; cases h1
set_option maxRecDepth 100000 in
set_option maxHeartbeats 4000000 in
theorem up_any (n r a : Int) (S s t : Nat) (ok : Bool) (w : World) (h0 : -9223372036854775808 ≤ n) (h1 : n ≤ 9223372036854775807) (ha0 : -9223372036854775808 ≤ a) (ha1 : a ≤ 9223372036854775807) (hT : TzT w) (hS : stg n = S) (hF : Found S r s t ok) :
    Calls Tryd.prog 66 #[.int .i64 n, .int .i64 r, .int .i64 a] w fun e w' => e = .returned (.bool (upV n s t ok a)) ∧ w = w' := by
  have H := find_any n r S s t ok w h0 h1 hT hS hF
  have h16 := stg_le n
  rw [hS] at h16
  have ht := hF.t1 h16
  clear hF hT hS
  cases ok with
  | false =>
    have hv : upV n s t false a = false := by simp [upV]
    rw [hv]
    go_enter Tryd.func66, Tryd.ntmps66
    go_wp2_with fail
    refine H.mono ?_
    rintro e w1 ⟨rfl, rfl⟩
    go_wp2_with fail
    go_ret
    exact ⟨rfl, rfl⟩
  | true =>
    obtain ⟨t1, t2, t3⟩ := ht rfl
    by_cases c0 : a < 0
    · have hv : upV n s t true a = false := by simp [upV]; intro h; omega
      rw [hv]
      go_enter Tryd.func66, Tryd.ntmps66
      go_wp2_with fail
      refine H.mono ?_
      rintro e w1 ⟨rfl, rfl⟩
      go_wp2_with fail
      go_ret
      exact ⟨rfl, rfl⟩
    by_cases c1 : n ≤ a
    · have hv : upV n s t true a = false := by simp [upV]; intro h h'; omega
      rw [hv]
      go_enter Tryd.func66, Tryd.ntmps66
      go_wp2_with fail
      refine H.mono ?_
      rintro e w1 ⟨rfl, rfl⟩
      go_wp2_with fail
      go_ret
      exact ⟨rfl, rfl⟩
    have HL := lower_any a t w (by omega) (by omega) t1 (by omega)
    have hv : upV n s t true a = (decide (a / 2 ^ (t - 1) % 2 = 0) && decide (a / 2 ^ s % 2 = 0)) := by
      have e1 : decide (0 ≤ a) = true := by simp; omega
      have e2 : decide (a < n) = true := by simp; omega
      unfold upV
      rw [e1, e2]
      simp
    have hsh := fun W : World => Held.run_shr (P := Tryd.prog) 3 .i64 .i64 (a := a) (r := a / 2 ^ s) s (by show s ≤ 64; omega) rfl W
    have hq0 : 0 ≤ a / 2 ^ s := Int.ediv_nonneg (by omega) (by have := two_pos s; omega)
    have hq1 : a / 2 ^ s < 9223372036854775808 := by
      have := Int.ediv_le_self (2 ^ s) (show 0 ≤ a by omega)
      omega
    have hb := bit_one hq0 hq1
    rw [hv, ← hb]
    obtain ⟨lw, hlw⟩ : ∃ b : Bool, decide (a / 2 ^ (t - 1) % 2 = 0) = b := ⟨_, rfl⟩
    rw [hlw] at HL ⊢
    generalize a / 2 ^ s = q at *
    clear hlw hb hv
    cases lw with
    | false =>
      go_enter Tryd.func66, Tryd.ntmps66
      go_wp2_with fail
      refine H.mono ?_
      rintro e w1 ⟨rfl, rfl⟩
      go_wp2_with fail
      refine HL.mono ?_
      rintro e w1 ⟨rfl, rfl⟩
      go_wp2_with fail
      go_ret
      exact ⟨rfl, rfl⟩
    | true =>
      go_enter Tryd.func66, Tryd.ntmps66
      go_wp2_with fail
      refine H.mono ?_
      rintro e w1 ⟨rfl, rfl⟩
      go_wp2_with fail
      refine HL.mono ?_
      rintro e w1 ⟨rfl, rfl⟩
      go_wp2_with (first
        | (refine Held.wpList_run (w := w) rfl (v := .int .i64 q) (Held.y_bin (S := fun _ => True) rfl rfl rfl (fun W => by simp [eqGuard]) hsh _ trivial) ?_)
        | (refine Held.wpList_run (w := w) rfl (v := .int .i64 (bits .and .i64 q 1)) (Held.y_int (S := fun _ => True) rfl rfl rfl (Held.run_bitop (by simp) 3 .i64 rfl) _ trivial) ?_))
      go_ret
      exact ⟨Mem.ret_bool rfl, rfl⟩
end Go.Proofs.YtlinmcgmkpkpaaaDoor.Bi
namespace Go.Proofs.YtlinmcgmkpkpaaaDoor.Bi
open Go.RowKit Go.Shelf Go.Proofs.YtlinmcgmkpkpaaaDoor Mem Held Go.Proofs.YtlinmcgmkpkpaaaDoor.Range
attribute [local go_sem] Oper.semAt_some
attribute [local irreducible] wpList wpListIn Calls
theorem firsts_prefix (d : Nat) {k : Nat} : ∀ {n : Nat}, k ≤ n → Net.firsts d k <+: Net.firsts d n
  | 0, h => by have : k = 0 := by omega
               subst this; exact List.prefix_refl _
  | n + 1, h => by
    rcases Nat.lt_or_ge k (n + 1) with c | c
    · rw [Net.firsts_succ]
      exact (firsts_prefix d (show k ≤ n by omega)).trans (List.prefix_append _ _)
    · have : k = n + 1 := by omega
      subst this; exact List.prefix_refl _
def pairsOf (n : Int) (t : Nat) (ok : Bool) : List Nat := if ok then Net.firsts (2 ^ (t - 1)) n.toNat else []
def EncP (t : Nat) (a : Nat) (B0 : Nat) (W : World) (args : Array Value) : Prop := args = #[.int .i64 (a : Int), .int .i64 ((a : Int) + 2 ^ (t - 1))]
theorem Found.is {n : Int} {r : Int} {s t : Nat} {ok : Bool} (h : Found (stg n) r s t ok) (ho : ok = true) : n = ((2 ^ stg n : Nat) : Int) ∧ 1 ≤ t ∧ t ≤ s ∧ s ≤ stg n ∧ stg n ≤ 16 := by
  have h16 := stg_le n
  rcases h with ⟨_, h2⟩ | ⟨h1, _⟩
  · have := h2.t1
    have := h2.ts
    have := h2.sS
    rcases stg_is n with e | ⟨e, _⟩
    · exact ⟨by rw [← two_nat]; exact e, by omega, by omega, by omega, h16⟩
    · omega
  · rw [ho] at h1; cases h1
set_option maxRecDepth 100000 in
set_option maxHeartbeats 4000000 in
theorem round_give (N bn br : Nat) (n r : Int) (s t : Nat) (ok : Bool) (w : World) (h0 : -9223372036854775808 ≤ n) (h1 : n ≤ 9223372036854775807) (hT : TzT w) (hF : Found (stg n) r s t ok)
    (hbn : Blk w bn 3 #[.int .i64 n]) (hbr : Blk w br 3 #[.int .i64 r]) :
    SeqGive Fence.wide N Tryd.prog 82 #[.pointer (some ⟨bn, 0, none⟩), .pointer (some ⟨br, 0, none⟩)] (EncP t) (fun _ _ => True) (pairsOf n t ok) w := by
  intro l J W hW hJ hY h00
  have kbn := (hbn.after hW).cell (i := 0) rfl
  have kbr := (hbr.after hW).cell (i := 0) rfl
  have H := find_any n r (stg n) s t ok W h0 h1 (hT.below hW hT.lt) rfl hF
  have hI := hF.is
  clear hbn hbr hT hF hW h0 h1
  refine callsIn_of_wp Tryd.func82 rfl trivial ?_ rfl
  simp only [Tryd.ntmps82, List.size_toArray, List.length_cons, List.length_nil, Nat.reduceAdd, Nat.reduceSub, Array.replicate_succ, Array.replicate_zero, List.push_toArray, List.append_toArray, List.nil_append, List.cons_append]
  cases ok with
  | false =>
    gi_wp2_with fail
    refine ⟨trivial, fun h => (by cases h), ?_⟩
    refine (callsIn_wide.2 H).mono ?_
    rintro e w3 ⟨rfl, rfl⟩
    gi_wp2_with fail
    exact bodyPost_ret (results_none rfl _ _ _) rfl ⟨⟨_, rfl⟩, h00⟩
  | true =>
    obtain ⟨hn, t1, t2, t3, t4⟩ := hI rfl
    have hd := two_nat (t - 1)
    have hd1 := two_pos (t - 1)
    have hd2 := two_16 (show t - 1 ≤ 16 by omega)
    obtain ⟨M, hM⟩ : ∃ M : Nat, 2 ^ stg n = M := ⟨_, rfl⟩
    have hM16 : M ≤ 65536 := by rw [← hM]; exact Nat.pow_le_pow_right (by omega) t4
    have hM1 : 1 ≤ M := by rw [← hM]; exact Nat.two_pow_pos _
    rw [hM] at hn
    obtain ⟨dN, hdN⟩ : ∃ dN : Nat, 2 ^ (t - 1) = dN := ⟨_, rfl⟩
    have HP := Lib.hid (show pairsOf n t true = Net.firsts dN M by unfold pairsOf; rw [if_pos rfl, hdN, hn]; rfl)
    have HAP := Lib.hid (fun W => apart_any t W t1 (show t ≤ 16 by omega))
    have HLO := Lib.hid (fun (W : World) (k : Nat) (hk : k ≤ 65536) => lower_any (k : Int) t W (by omega) (by omega) t1 (show t ≤ 16 by omega))
    rw [hdN] at hd
    have HY := Lib.hid (fun (k : Nat) (wr : World) (hk : k < M) (hb : k / dN % 2 = 0) (hJk : J (Net.firsts dN k) wr) => hY (Net.firsts dN k) k #[.int .i64 (k : Int), .int .i64 ((k : Int) + dN)] wr wr hJk (World.grownBy.refl _ _) (by unfold EncP; rw [hd]) (by
      rw [HP.out]
      have := firsts_prefix dN (show k + 1 ≤ M by omega)
      rw [Net.firsts_succ, if_pos hb] at this
      exact this))
    rw [hd] at hd1 hd2 HAP HLO
    have HFS := Lib.hid (Net.firsts_succ dN)
    rw [HP.out]
    subst hn
    clear hY hI hd hdN hM HP t3 t4 t2 t1
    gi_wp2_with fail
    refine ⟨trivial, fun h => (by cases h), ?_⟩
    refine (callsIn_wide.2 H).mono ?_
    rintro e w3 ⟨rfl, rfl⟩
    clear H
    gi_wp2_with fail
    gi_loopw [18] (fun i wr => ∃ k : Nat, k ≤ M ∧ i = .int .i64 k ∧ J (Net.firsts dN k) wr) (fun i _ => M - (intOf i).toNat)
    case atStart => exact ⟨0, by omega, rfl, h00⟩
    case round =>
      clear h00 kbn kbr
      obtain ⟨k, hk, rfl, Jk⟩ := hrel
      by_cases hlt : k < M
      · have hlt' : (k : Int) < (M : Int) := by omega
        have hL := HLO.out wr k (by omega)
        by_cases hb : k / dN % 2 = 0
        · have hdec : decide ((k : Int) / (dN : Int) % 2 = 0) = true := by
            rw [← Int.natCast_ediv]; simp; omega
          rw [hdec] at hL
          obtain ⟨fn, tmps, assign, body, hy, hR⟩ := HY.out k wr hlt hb Jk
          have hfs : Net.firsts dN (k + 1) = Net.firsts dN k ++ [k] := by rw [HFS.out, if_pos hb]
          rw [← hfs] at hR
          have hadd : IntKind.i64.wrap ((k : Int) + (dN : Int)) = (k : Int) + dN := by rw [IntKind.wrap_i64]; omega
          clear hfs hb hdec
          gi_wp2_with fail
          refine ⟨trivial, fun h => (by cases h), ?_⟩
          refine (callsIn_wide.2 hL).mono ?_
          rintro e w4 ⟨rfl, rfl⟩
          gi_wp2_with fail
          refine ⟨trivial, fun h => (by cases h), ?_⟩
          refine (callsIn_wide.2 (HAP.out wr)).mono ?_
          rintro e w5 ⟨rfl, rfl⟩
          gi_wp2_with fail
          refine ⟨fun h => (by cases h), ?_⟩
          refine hR.mono ?_
          rintro e W4 ⟨rfl, J4, -⟩
          gi_wp2_with fail
          go_roundw
          case rel => exact ⟨k + 1, by omega, by go_num, J4⟩
          case measure => simp [intOf]; omega
        · have hdec : decide ((k : Int) / (dN : Int) % 2 = 0) = false := by
            rw [← Int.natCast_ediv]; simp; omega
          rw [hdec] at hL
          have hfs : Net.firsts dN (k + 1) = Net.firsts dN k := by rw [HFS.out, if_neg hb, List.append_nil]
          rw [← hfs] at Jk
          clear hfs hb hdec
          gi_wp2_with fail
          refine ⟨trivial, fun h => (by cases h), ?_⟩
          refine (callsIn_wide.2 hL).mono ?_
          rintro e w4 ⟨rfl, rfl⟩
          gi_wp2_with fail
          refine ⟨trivial, ?_⟩
          gi_wp2_with fail
          try refine ⟨fun _ h => (by cases h), ?_⟩
          gi_wp2_with fail
          go_roundw
          case rel => exact ⟨k + 1, by omega, by go_num, Jk⟩
          case measure => simp [intOf]; omega
      · have hkM : k = M := by omega
        subst hkM
        gi_wp2_with fail
        go_end0
        exact ⟨⟨_, rfl⟩, Jk⟩
end Go.Proofs.YtlinmcgmkpkpaaaDoor.Bi
namespace Go.Proofs.YtlinmcgmkpkpaaaDoor.Bi
open Go.RowKit Go.Shelf Go.Proofs.YtlinmcgmkpkpaaaDoor Mem Held Go.Proofs.YtlinmcgmkpkpaaaDoor.Range
attribute [local go_sem] Oper.semAt_some
attribute [local irreducible] wpList wpListIn Calls
end Go.Proofs.YtlinmcgmkpkpaaaDoor.Bi
namespace Go.Proofs.YtlinmcgmkpkpaaaDoor.Held
open Go.RowKit
def wpAnyB (P : Program) (md : Region.Mode) (ops : Array Oper) (Q : Exit → Act → World → Prop) (T : World → Prop) (s : Nat) : Nat → Array Bool → Act → World → Prop
  | 0, listed, a, w => Region.ready md ops listed = [] ∧ Q .normal a w
  | fuel + 1, listed, a, w =>
    (Region.ready md ops listed = [] → Q .normal a w) ∧
    ∀ i ∈ Region.ready md ops listed, wpOp P ops Q i (fun a' w' => ((listed.setIfInBounds i true).getD s true = false → T w') ∧ wpAnyB P md ops Q T s fuel (listed.setIfInBounds i true) a' w') a w
section
variable {P : Program} {ops : Array Oper} {Q : Exit → Act → World → Prop} {md : Region.Mode} {T : World → Prop} {s : Nat}
theorem wpAny_of_bar : ∀ (fuel : Nat) (listed : Array Bool) (a : Act) (w : World), wpAnyB P md ops Q T s fuel listed a w → wpAny P md ops Q fuel listed a w
  | 0, _, _, _, h => h
  | fuel + 1, _, _, _, h => ⟨h.1, fun i hi => wpOp_mono (fun a' w' h' => wpAny_of_bar fuel _ a' w' h'.2) (h.2 i hi)⟩
theorem not_yet {listed : Array Bool} {j : Nat} {oj : Oper} (hj : j ∈ Region.ready md ops listed) (ho : ops[j]? = some oj) {e : Edge} (he : e ∈ oj.after) (hb : Region.binds md e = true) : listed.getD e.on true ≠ false := fun hx => by
  obtain ⟨_, o, h1, h2⟩ := mem_ready.1 hj
  obtain rfl : o = oj := by rw [h1] at ho; exact Option.some.inj ho
  have := h2 e he hb
  by_cases c : e.on < listed.size
  · simp [c] at hx this; exact absurd (this.symm.trans hx) (by simp)
  · simp [Array.getElem?_eq_none (Nat.le_of_not_lt c)] at this
structure Early (md : Region.Mode) (ops : Array Oper) (B : List Nat) (i : Nat) (oi : Oper) (listed : Array Bool) : Prop where
  ready : i ∈ Region.ready md ops listed
  free : ∀ j oj, ops[j]? = some oj → j ≠ i → listed.getD j true = false → (∀ e ∈ oj.after, Region.binds md e = true → e.on ≠ i) → oi.apart ops oj = true
  late : ∀ b ∈ B, listed.getD b true = false
def Waits (md : Region.Mode) (ops : Array Oper) (B : List Nat) (i : Nat) : Prop := i ∉ B ∧ ∀ b ∈ B, ∀ o, ops[b]? = some o → ∃ e ∈ o.after, Region.binds md e = true ∧ (e.on = i ∨ e.on ∈ B)
section
variable {B : List Nat} {i : Nat} {oi : Oper} {listed : Array Bool}
theorem Early.un (h : Early md ops B i oi listed) : listed.getD i true = false := (mem_ready.1 h.ready).1
theorem Early.waits (h : Early md ops B i oi listed) {j : Nat} {oj : Oper} (hj : j ∈ Region.ready md ops listed) (ho : ops[j]? = some oj) : ∀ e ∈ oj.after, Region.binds md e = true → e.on ≠ i :=
  fun e he hb heq => not_yet hj ho he hb (by rw [heq]; exact h.un)
theorem Early.out (h : Early md ops B i oi listed) (hw : Waits md ops B i) {j : Nat} (hj : j ∈ Region.ready md ops listed) : j ∉ B := fun hjB => by
  obtain ⟨_, oj, ho, _⟩ := mem_ready.1 hj
  obtain ⟨e, he, hb, hor⟩ := hw.2 j hjB oj ho
  rcases hor with h1 | h1
  · exact h.waits hj ho e he hb h1
  · exact not_yet hj ho he hb (h.late _ h1)
theorem Early.next (h : Early md ops B i oi listed) (hw : Waits md ops B i) {j : Nat} (hj : j ∈ Region.ready md ops listed) (hji : j ≠ i) : Early md ops B i oi (listed.setIfInBounds j true) where
  ready := ready_mono h.ready (Ne.symm hji)
  free k ok hk hki hun hno := h.free k ok hk hki (by
    by_cases e : j = k
    · exact e ▸ (mem_ready.1 hj).1
    · rwa [getD_set_ne true e] at hun) hno
  late b hb := by rw [getD_set_ne true (show ¬ j = b from fun e => h.out hw hj (by rw [e]; exact hb))]; exact h.late b hb
end
theorem wpAnyB_early {i : Nat} {oi : Oper} {v : Value} (hi : ops[i]? = some oi) (hsel : ∀ (j : Nat) (o : Oper) cs b, ops[j]? = some o → o.op ≠ .select cs b)
    (hQ : ∀ c a w, Q (.panic c) (a.put oi.dst v) w → Q (.panic c) a w) {B : List Nat} (hs : s ∈ B) (hw : Waits md ops B i) :
    ∀ (fuel : Nat) {listed : Array Bool} {a : Act} {w : World}, Early md ops B i oi listed → YieldsIf P ops T oi v a → T w →
      wpAnyB P md ops Q T s fuel (listed.setIfInBounds i true) (a.put oi.dst v) w → wpAnyB P md ops Q T s (fuel + 1) listed a w
  | fuel, listed, a, w, h, hy, hT, H => by
    refine ⟨fun h0 => absurd (h0 ▸ h.ready) (by simp), fun j hj => ?_⟩
    by_cases hji : j = i
    · exact hji ▸ hy.wpOp hi hT ⟨fun _ => hT, H⟩
    · match fuel, H with
      | 0, H => exact absurd (H.1 ▸ ready_mono hj hji) (by simp)
      | fuel + 1, H =>
        obtain ⟨hun, oj, ho, _⟩ := mem_ready.1 hj
        have step := wpOp_putIf ho (h.free j oj ho hji hun (h.waits hj ho)) (fun cs b => hsel i oi cs b hi) (fun cs b => hsel j oj cs b ho) hQ hy (H.2 j (ready_mono hj hji))
        have n := h.next hw hj hji
        refine wpOp_mono (fun a' w' k => ?_) step
        obtain ⟨k1, k2, k3⟩ := k
        rw [Array.setIfInBounds_comm _ _ (Ne.symm hji)] at k2 k3
        have hT' : T w' := k2 (by rw [getD_set_ne true (show ¬ i = s from fun e => hw.1 (by rw [e]; exact hs))]; exact n.late s hs)
        exact ⟨fun _ => hT', wpAnyB_early hi hsel hQ hs hw fuel n k1 hT' k3⟩
def waitsB (md : Region.Mode) (ops : Array Oper) (listed : Array Bool) (B : List Nat) (s i : Nat) : Bool :=
  B.contains s && !B.contains i && B.all fun b => !listed.getD b true && match ops[b]? with
    | some o => o.after.any fun e => Region.binds md e && (e.on == i || B.contains e.on)
    | none => false
theorem takeB (i : Nat) (d : Option Tmp) (B : List Nat) {oi : Oper} {v : Value} {fuel : Nat} {listed : Array Bool} {a : Act} {w : World} (hi : ops[i]? = some oi) (hd : oi.dst = d)
    (hs : Region.noSelect ops = true) (hf : Region.free md ops listed i = true) (hr : (Region.ready md ops listed).contains i = true) (hB : waitsB md ops listed B s i = true)
    (hQ : ∀ c a w, Q (.panic c) (a.put d v) w → Q (.panic c) a w) (hw : Region.wanted oi (yielded ops a.tmps) = true) (hy : ∀ w, T w → (execOp a.eval oi).run P w = .ok (.value v) w) (hT : T w)
    (h : wpAnyB P md ops Q T s fuel (listed.setIfInBounds i true) (a.put d v) w) : wpAnyB P md ops Q T s (fuel + 1) listed a w := by
  subst hd
  unfold waitsB at hB
  simp only [Bool.and_eq_true, List.contains_iff_mem, Bool.not_eq_true', List.all_eq_true] at hB
  obtain ⟨⟨h1, h2⟩, h3⟩ := hB
  have h2' : i ∉ B := fun hm => by rw [List.contains_iff_mem.2 hm] at h2; cases h2
  refine wpAnyB_early hi (Region.noSelect_spec hs) hQ h1 ⟨h2', fun b hb o ho => ?_⟩ fuel ⟨by simpa using hr, Region.free_spec hi hf, fun b hb => (h3 b hb).1⟩ (.inl ⟨hw, hy⟩) hT h
  have := (h3 b hb).2
  rw [ho] at this
  obtain ⟨k, hk, he⟩ := Array.any_eq_true.1 this
  simp only [Bool.and_eq_true, Bool.or_eq_true, beq_iff_eq, List.contains_iff_mem] at he
  exact ⟨o.after[k], Array.getElem_mem hk, he.1, he.2⟩
theorem oneB (i : Nat) {fuel : Nat} {listed : Array Bool} {a : Act} {w : World} (hr : Region.ready md ops listed = [i])
    (h : wpOp P ops Q i (fun a' w' => ((listed.setIfInBounds i true).getD s true = false → T w') ∧ wpAnyB P md ops Q T s fuel (listed.setIfInBounds i true) a' w') a w) : wpAnyB P md ops Q T s (fuel + 1) listed a w :=
  ⟨fun h0 => absurd (hr ▸ h0) (by simp), fun j hj => by rw [hr] at hj; obtain rfl := List.mem_singleton.1 hj; exact h⟩
theorem doneB {listed : Array Bool} {a : Act} {w : World} (hr : Region.ready md ops listed = []) (h : Q .normal a w) : ∀ fuel, wpAnyB P md ops Q T s fuel listed a w
  | 0 => ⟨hr, h⟩
  | _ + 1 => ⟨fun _ => h, by rw [hr]; simp⟩
theorem wp_region_bar {id : Nat} {a : Act} {w : World} (hm : P.follows .mixedOrders = true)
    (h : wpAnyB P .any ops Q T s ops.size (Array.replicate ops.size false) a { w with drawn := w.drawn + 1 }) : (Code.region id ops true).wp P Q a w :=
  wp_region_any hm (wpAny_of_bar _ _ _ _ h)
theorem wpIn_region_barR {n : Nat} {r : Option Nat} {F : Fence} (hF : F = wideR r) {id : Nat} {a : Act} {w : World} (hm : P.follows .mixedOrders = true) (hd : noDefer ops = true) (hq : ∀ a w, ¬ Q .outgrown a w)
    (h : wpAnyB P .any ops Q T s ops.size (Array.replicate ops.size false) a { w with drawn := w.drawn + 1 }) : (Code.region id ops true).wpIn F n P Q a w := by
  subst hF
  exact wpIn_region_any hm (anyIn_of_any hd hq _ _ _ _ (wpAny_of_bar _ _ _ _ h))
end
end Go.Proofs.YtlinmcgmkpkpaaaDoor.Held
namespace Go.Proofs.YtlinmcgmkpkpaaaDoor.Bi
open Go.RowKit Go.Shelf Go.Proofs.YtlinmcgmkpkpaaaDoor Mem Held Go.Proofs.YtlinmcgmkpkpaaaDoor.Range
attribute [local go_sem] Oper.semAt_some
attribute [local irreducible] wpList wpListIn Calls
theorem own_obj {w : World} {base : Nat} {t : TypeId} {k : IntKind} {v : Value} {zs : List Int} (h : Mem.Own w base t k v zs) {b : Nat} (e : v.ownBlock = some b) : ∃ cs fz, w.heap[b]? = some (.cells cs t fz) := by
  rcases h.2.2 with ⟨rfl, _⟩ | ⟨g, cap, cur, rfl, hb, hg, _⟩
  · simp [Value.ownBlock] at e
  · simp [Value.ownBlock] at e
    subst e
    exact ⟨_, _, hg⟩
theorem own_ne {w : World} {base : Nat} {t : TypeId} {k : IntKind} {v : Value} {zs : List Int} (h : Mem.Own w base t k v zs) {row : Option Nat} (hr : ∀ r, row = some r → ∃ o : Obj, w.heap[r]? = some o ∧ o.isCells = false) : v.ownBlock = none ∨ v.ownBlock ≠ row := by
  cases hq : v.ownBlock with
  | none => exact .inl rfl
  | some b =>
    refine .inr fun e => ?_
    obtain ⟨o, ho, hc⟩ := hr b e.symm
    obtain ⟨cs, fz, h2⟩ := own_obj h hq
    rw [h2] at ho
    cases ho
    cases hc
structure Two (w V : World) (B gx gy : Nat) (ux uy vx vy : Value) (xs ys : List Int) (W : World) : Prop where
  lx : gx < B
  ly : gy < B
  ne : gx ≠ gy
  hx : w.heap.size ≤ gx
  hy : w.heap.size ≤ gy
  cx : W.heap[gx]? = some (.cells #[ux] 53 (0, 0))
  cy : W.heap[gy]? = some (.cells #[uy] 53 (0, 0))
  ox : Mem.Own W B 3 .i64 vx xs
  oy : Mem.Own W B 3 .i64 vy ys
  ap : ∀ b, vx.ownBlock = some b → vy.ownBlock ≠ some b
  low : ∀ b, b < B → b ≠ gx → b ≠ gy → W.heap[b]? = V.heap[b]?
  bel : Below w.heap.size w W
  sz : B ≤ W.heap.size
section
variable {w V W W' : World} {B gx gy : Nat} {ux uy vx vy : Value} {xs ys : List Int}
theorem Two.keep (h : Two w V B gx gy ux uy vx vy xs ys W) {row : Option Nat} (hg : W.grownBy W' row) (hr : ∀ r, row = some r → B ≤ r ∧ ∃ o : Obj, W.heap[r]? = some o ∧ o.isCells = false) : Two w V B gx gy ux uy vx vy xs ys W' := by
  have hne : ∀ i, i < B → some i ≠ row := fun i hi e => by have := (hr i e.symm).1; omega
  have hr2 := fun r e => (hr r e).2
  refine ⟨h.lx, h.ly, h.ne, h.hx, h.hy, Held.keep_cells h.cx hg (hne _ h.lx), Held.keep_cells h.cy hg (hne _ h.ly), h.ox.kept hg (own_ne h.ox hr2), h.oy.kept hg (own_ne h.oy hr2), h.ap, fun b hb h1 h2 => ?_, h.bel.grown hg (by have := h.sz; have := h.hx; have := h.lx; omega) (fun r e => by have := (hr r e).1; have := h.hx; have := h.lx; omega), Nat.le_trans h.sz hg.size⟩
  exact (hg.block b (Nat.lt_of_lt_of_le hb h.sz) (hne b hb)).trans (h.low b hb h1 h2)
theorem Two.after (h : Two w V B gx gy ux uy vx vy xs ys W) (hb : Below W.heap.size W W') : Two w V B gx gy ux uy vx vy xs ys W' := h.keep (grown_of_below hb none) (fun r e => by cases e)
end
section
variable {P : Program} {ops : Array Oper} {Q : Exit → Act → World → Prop}
end
theorem wf_i64 {z : Int} (h : -9223372036854775808 ≤ z) (h' : z ≤ 9223372036854775807) : (Lit.int .i64 z).wf = true := by simp [Lit.wf, IntKind.min, IntKind.max, IntKind.signed, IntKind.bits]; omega
end Go.Proofs.YtlinmcgmkpkpaaaDoor.Bi
namespace Go.Proofs.YtlinmcgmkpkpaaaDoor.Bi
open Go.RowKit Go.Shelf Go.Proofs.YtlinmcgmkpkpaaaDoor Mem Held Go.Proofs.YtlinmcgmkpkpaaaDoor.Range
attribute [local go_sem] Oper.semAt_some
attribute [local irreducible] wpList wpListIn Calls
def xsOf (l : List Nat) : List Int := l.map fun (a : Nat) => (a : Int)
def ysOf (t : Nat) (l : List Nat) : List Int := l.map fun (a : Nat) => (a : Int) + 2 ^ (t - 1)
def I2 (w V : World) (B gx gy t : Nat) (pre : List Nat) (W : World) : Prop := ∃ vx vy, Two w V B gx gy vx vy vx vy (xsOf pre) (ysOf t pre) W
theorem I2.from (w V : World) (B gx gy t : Nat) : OwnFrom B (I2 w V B gx gy t) := fun pre W W' row h hg hr => by
  obtain ⟨vx, vy, h⟩ := h
  exact ⟨vx, vy, h.keep hg hr⟩
end Go.Proofs.YtlinmcgmkpkpaaaDoor.Bi
namespace Go.Proofs.YtlinmcgmkpkpaaaDoor.Bi
open Go.RowKit Go.Shelf Go.Proofs.YtlinmcgmkpkpaaaDoor Mem Held Help Go.Proofs.YtlinmcgmkpkpaaaDoor.Range
attribute [local go_sem] Oper.semAt_some
attribute [local irreducible] wpList wpListIn Calls
end Go.Proofs.YtlinmcgmkpkpaaaDoor.Bi
namespace Go.Proofs.YtlinmcgmkpkpaaaDoor.Bi
open Go.RowKit Go.Shelf Go.Proofs.YtlinmcgmkpkpaaaDoor Mem Held Help Go.Proofs.YtlinmcgmkpkpaaaDoor.Range
attribute [local go_sem] Oper.semAt_some
attribute [local irreducible] wpList wpListIn Calls
section
variable {P : Program} {S : World → Prop} {ρ : Operand → Value} {o : Oper} {t ty : TypeId} {x y : Operand} {k k' : IntKind} {r : Int}
theorem y_rem (a b : Int) (ho : o.op = .binOp .rem t x y ty) (hx : ρ x = .int k a) (hy : ρ y = .int k b) (hr : ∀ w : World, (binOp .rem t (.int k a) (.int k b)).run P w = .ok (.int k r) w) : ∀ w, S w → (execOp ρ o).run P w = .ok (.value (.int k r)) w := Held.y_int ho hx hy hr
theorem y_sub (a b : Int) (ho : o.op = .binOp .sub t x y ty) (hx : ρ x = .int k a) (hy : ρ y = .int k b) (hr : k.wrap (a - b) = r) : ∀ w, S w → (execOp ρ o).run P w = .ok (.value (.int k r)) w := Held.y_int ho hx hy (Held.run_sub t k hr)
end
theorem rem_of {a : Int} (ha : 0 ≤ a) : a.tmod 2 = a % 2 := Int.tmod_eq_emod_of_nonneg ha
end Go.Proofs.YtlinmcgmkpkpaaaDoor.Bi
namespace Go.Proofs.YtlinmcgmkpkpaaaDoor.Mg
open Go.RowKit Go.Shelf Go.Proofs.YtlinmcgmkpkpaaaDoor Mem Held Go.Proofs.YtlinmcgmkpkpaaaDoor.Range
attribute [local go_sem] Oper.semAt_some
attribute [local irreducible] wpList wpListIn Calls
theorem other_any (f n : Int) (w : World) :
    Calls Tryd.prog 71 #[.int .i64 f, .int .i64 n] w fun e w' => ∃ bf bn : Nat, e = .returned (.func (.func 90) #[] #[.pointer (some ⟨bn, 0, none⟩), .pointer (some ⟨bf, 0, none⟩)]) ∧ Blk w' bf 3 #[.int .i64 f] ∧ Blk w' bn 3 #[.int .i64 n] ∧ w.heap.size ≤ bf ∧ w.heap.size ≤ bn ∧ Below w.heap.size w w' := by
  go_enter Tryd.func71, Tryd.ntmps71
  go_wp2_with (first
    | (refine Held.wpList_box_cell (w := w) rfl 3 _ rfl (.int .i64 f) rfl rfl ?_; intro w1 q1 g1 z1)
    | (refine Held.wpList_box_cell (w := w1) rfl 3 _ rfl (.int .i64 n) rfl rfl ?_; intro w2 q2 g2 z2))
  have q1 := Blk.grown q1 g2 (by simp)
  go_ret
  exact ⟨_, _, rfl, q1, q2, Nat.le_refl _, g1.size, ((Below.refl _ w).grown g1 (Nat.le_refl _) (by simp)).grown g2 g1.size (by simp)⟩
def atP (f n : Nat) (k : Nat) : Option Nat := if f + 2 * k < n then some (f + 2 * k) else none
def encP (x : Nat) : Array Value := #[.int .i64 (x : Int)]
theorem atP_some {f n k x : Nat} (h : atP f n k = some x) : x = f + 2 * k ∧ f + 2 * k < n := by
  unfold atP at h
  split at h
  · rename_i hk
    injection h with h
    exact ⟨h.symm, hk⟩
  · cases h
theorem atP_none {f n k : Nat} (h : atP f n k = none) : n ≤ f + 2 * k := by
  unfold atP at h
  split at h
  · cases h
  · omega
set_option maxRecDepth 100000 in
set_option maxHeartbeats 4000000 in
theorem places_stop (N bn bf : Nat) (S : Nat → Prop) (f n : Nat) (w : World) (hf : f ≤ 1) (hn : n ≤ 1073741824) (hbn : w.cell? ⟨bn, 0, none⟩ = some (.int .i64 (n : Int))) (hbf : w.cell? ⟨bf, 0, none⟩ = some (.int .i64 (f : Int))) (hSn : ¬ S bn) (hSf : ¬ S bf) :
    SeqStop Fence.wide N Tryd.prog 90 #[.pointer (some ⟨bn, 0, none⟩), .pointer (some ⟨bf, 0, none⟩)] encP (Only S) (atP f n) w := by
  intro l J Jx Nb W hW hJ hJx hN hY h0
  have kbn := (hW.cell (p := ⟨bn, 0, none⟩) (World.block_lt_of_cell? w _ hbn)).trans hbn
  have kbf := (hW.cell (p := ⟨bf, 0, none⟩) (World.block_lt_of_cell? w _ hbf)).trans hbf
  clear hbn hbf hW hJx
  refine callsIn_of_wp Tryd.func90 rfl trivial ?_ rfl
  simp only [Tryd.ntmps90, List.size_toArray, List.length_cons, List.length_nil, Nat.reduceAdd, Nat.reduceSub, Array.replicate_succ, Array.replicate_zero, List.push_toArray, List.append_toArray, List.nil_append, List.cons_append]
  gi_wp2_with fail
  gi_loopw [6] (fun i wr => ∃ p : Nat, p ≤ n ∧ i = .int .i64 p ∧ J ((p + 1 - f) / 2) wr ∧ Only S W wr) (fun i _ => n - (intOf i).toNat)
  case atStart => exact ⟨0, by omega, rfl, by rw [show (0 + 1 - f) / 2 = 0 by omega]; exact h0, Only.refl _ _⟩
  case round =>
    obtain ⟨p, hp, rfl, Jk, ok⟩ := hrel
    by_cases hlt : p < n
    · have kf := ok.cell (p := ⟨bf, 0, none⟩) hSf kbf
      have hlt' : (p : Int) < (n : Int) := by omega
      obtain ⟨r, hr⟩ : ∃ r, p % 2 = r := ⟨_, rfl⟩
      have hmod : ((p : Int)).tmod 2 = (r : Int) := by rw [Bi.rem_of (by omega)]; omega
      have hm := fun W => Held.run_rem (P := Tryd.prog) 3 .i64 (a := (p : Int)) (b := 2) (r := (r : Int)) (by omega) hmod W
      by_cases hb : r = f
      · have hk : f + 2 * ((p + 1 - f) / 2) = p := by omega
        have hYk := hY ((p + 1 - f) / 2) p wr Jk (by unfold atP; rw [hk, if_pos hlt])
        have hnx : (p + 1 - f) / 2 + 1 = (p + 1 + 1 - f) / 2 := by omega
        rw [hnx] at hYk
        obtain ⟨fn, tmps, assign, body, hy, hR⟩ := hYk
        have hy : (Instr.yield l #[.int .i64 (p : Int)]).run Tryd.prog wr = .ok (.round l fn tmps assign body) wr := hy
        clear hY hN hnx hk hmod hr
        subst hb
        gi_wp2_with (first
          | (refine Held.wpListIn_one (r := none) rfl (by intro c e; cases e) ?_; refine Held.wpList_run (w := wr) rfl (v := .int .i64 (r : Int)) (Bi.y_rem (S := fun _ => True) (p : Int) 2 rfl rfl rfl hm _ trivial) ?_; refine wpList_nil ⟨rfl, ?_⟩))
        refine ⟨fun h => (by cases h), ?_⟩
        refine hR.mono ?_
        rintro e W4 (⟨rfl, J4, o4⟩ | ⟨rfl, Jx4⟩)
        · have o5 := ok.trans o4
          clear hR hy o4 ok Jk
          gi_wp2_with fail
          go_roundw
          case rel => exact ⟨p + 1, by omega, by go_num, J4, o5⟩
          case measure => simp [intOf]; omega
        · gi_wp2_with fail
          exact bodyPost_ret (results_none rfl _ _ _) rfl ⟨⟨_, rfl⟩, .inr ⟨_, Jx4⟩⟩
      · have hnx : (p + 1 - f) / 2 = (p + 1 + 1 - f) / 2 := by omega
        rw [hnx] at Jk
        have hb' : ¬ (r : Int) = (f : Int) := by omega
        have hqf : decide ((r : Int) = (f : Int)) = false := by simp; omega
        clear hY hN hnx hmod hr hb hb'
        gi_wp2_with (first
          | (refine Held.wpListIn_one (r := none) rfl (by intro c e; cases e) ?_; refine Held.wpList_run (w := wr) rfl (v := .int .i64 (r : Int)) (Bi.y_rem (S := fun _ => True) (p : Int) 2 rfl rfl rfl hm _ trivial) ?_; refine wpList_nil ⟨rfl, ?_⟩)
          | (refine Held.wpListIn_one (r := none) rfl (by intro c e; cases e) ?_; refine Held.wpList_run (w := wr) rfl (v := .bool false) (Held.y_eqI (S := fun _ => True) rfl rfl rfl hqf _ trivial) ?_; refine wpList_nil ⟨rfl, ?_⟩; simp only [Act.put, Z1, Z2, Z3]))
        refine ⟨fun _ h => (by cases h), ?_⟩
        gi_wp2_with fail
        try refine ⟨fun _ h => (by cases h), ?_⟩
        gi_wp2_with fail
        go_roundw
        case rel => exact ⟨p + 1, by omega, by go_num, Jk, ok⟩
        case measure => simp [intOf]; omega
    · have hpn : p = n := by omega
      subst hpn
      gi_wp2_with fail
      go_end0
      exact ⟨⟨_, rfl⟩, .inl ⟨(p + 1 - f) / 2, by unfold atP; rw [if_neg (by omega)], Jk⟩⟩
end Go.Proofs.YtlinmcgmkpkpaaaDoor.Mg
