/-
  Names, and numbers as bytes, of package keys, as plain functions: no program here.
  What a record is to the program, as plain functions; package record's one, leads, Before, Ahead, Dead, and the document's own, by their contracts.
  Package record's Dead, rowOf, record, Pick, by their contracts.
  A range over a function whose iterator makes what it hands out (new blocks), keeps no cells of its own and whose body never leaves early: what the iterator is told of the rounds, and what the loop owes: no program here.
  s[l:h] of a slice at a block's start, and what it reads as: no program here.
  Package record's words, put, number and mayBe, by their contracts.
  Package bitonic: Padded, stages, Rounds, apart, lower, by their contracts.
  Package bitonic: which stage and step a round is, and whether a pair is up, by their contracts.
  Where every activation may run, what is shown of one operation without a fence holds within a round, and within an iterator, too: no program here.
  Package bitonic's iterator over a round's pairs, by its contract: it hands out the first places, rising, each with the second one.
  Lists of structs in memory, of any kind whose fields are one cell each: what they read as, literals, appends, stores: no program here.
  What there is to do in a job, plain: its tasks, group by group and one behind the other, what each reads and writes, who makes a spot, when a task is ready: no program here but the kinds of its lists.
  dominohelp.Stops of package bitonic's iterator: told to stop behind so many pairs it hands out no more.
-/
import Derived.Test.YtipmfficjomcoaaDoorB2
import Derived.Test.YtipmfficjomcoaaDoorB1
import Derived.StillTailTactics
import Derived.Laws.Slices
import Derived.Lib.EndianBits
import Derived.Lib.BufferOwn
import Derived.OwnWalk
import Derived.Deep.MidRow
import Derived.Maps.AppendAt
import Derived.Great.BuildSlice
import Derived.Great.FillDense
set_option linter.unusedVariables false
namespace Go.Proofs.YtipmfficjomcoaaDoor.Ky
open Go.Proofs.YtipmfficjomcoaaDoor.Sum Po
def decN (n : Nat) : List Int := if n < 10 then [48 + (n : Int)] else decN (n / 10) ++ [48 + ((n % 10 : Nat) : Int)]
termination_by n
decreasing_by omega
def decI (v : Int) : List Int := if v < 0 then 45 :: decN (-v).toNat else decN v.toNat
def name (ph r a : Int) (t : Nat) (i : Int) : List Int := [112] ++ decI ph ++ [46, 114] ++ decI r ++ [46, 97] ++ decI a ++ [46, 116] ++ decN t ++ [46, 105] ++ decI i
end Go.Proofs.YtipmfficjomcoaaDoor.Ky
namespace Go.Proofs.YtipmfficjomcoaaDoor.Rc
open Go.RowKit Go.Shelf Go.Proofs.YtipmfficjomcoaaDoor Mem Help Go.Proofs.YtipmfficjomcoaaDoor.Sum Po Ct Go.Proofs.YtipmfficjomcoaaDoor.Bit Held
attribute [local irreducible] wpList wpListIn Calls
def u64 (x : Int) : Int := x % 18446744073709551616
theorem i64_wf (x : Int) : (Lit.int .i64 (IntKind.i64.wrap x)).wf = true := by
  rw [IntKind.wrap_i64]
  simp [Lit.wf, IntKind.min, IntKind.max, IntKind.signed, IntKind.bits]
  omega
def ahd (da : Bool) (ka : Int) (db : Bool) (kb : Int) : Bool := !da && (db || decide (ka < kb))
def bef (da : Bool) (ka sa : Int) (db : Bool) (kb sb : Int) : Bool := !da && (db || (decide (ka < kb) || (decide (ka = kb) && decide (sa < sb))))
theorem lead_eq (da db l : Bool) : bits .and .u64 (bits .xor .u64 1 (oneI da)) (bits .or .u64 (oneI db) (oneI l)) = oneI (!da && (db || l)) := by cases da <;> cases db <;> cases l <;> decide
end Go.Proofs.YtipmfficjomcoaaDoor.Rc
namespace Go.Proofs.YtipmfficjomcoaaDoor.Rc
open Go.RowKit Go.Shelf Go.Proofs.YtipmfficjomcoaaDoor Mem Help Go.Proofs.YtipmfficjomcoaaDoor.Sum Po Ct Go.Proofs.YtipmfficjomcoaaDoor.Bit Held
attribute [local irreducible] wpList wpListIn Calls
def numbers (d : Bool) (k v s : Int) : List Int := [oneI d, u64 k, u64 v, u64 s]
end Go.Proofs.YtipmfficjomcoaaDoor.Rc
namespace Go.Proofs.YtipmfficjomcoaaDoor.Range
open Go.RowKit
variable {F : Fence} {n : Nat} {P : Program}
end Go.Proofs.YtipmfficjomcoaaDoor.Range
namespace Go.Proofs.YtipmfficjomcoaaDoor.Mem
open Go.RowKit
end Go.Proofs.YtipmfficjomcoaaDoor.Mem
namespace Go.Proofs.YtipmfficjomcoaaDoor.Rc
open Go.RowKit Go.Shelf Go.Proofs.YtipmfficjomcoaaDoor Mem Help Go.Proofs.YtipmfficjomcoaaDoor.Sum Po Ky Ct Go.Proofs.YtipmfficjomcoaaDoor.Bit Held Go.Proofs.YtipmfficjomcoaaDoor.Range
attribute [local go_sem] Oper.semAt_some
attribute [local irreducible] wpList wpListIn Calls
theorem run_shl_ {P : Program} (t : TypeId) (k k' : IntKind) {a : Int} (n : Nat) (hn : n ≤ k.bits) (w : World) : (binOp .shl t (.int k a) (.int k' (n : Int))).run P w = .ok (.int k (k.wrap (a * 2 ^ n))) w := by
  rw [binOp_shl, shift_shl k k' a (n : Int) (by omega) (by omega), Int.toNat_natCast]
  rfl
end Go.Proofs.YtipmfficjomcoaaDoor.Rc
namespace Go.Proofs.YtipmfficjomcoaaDoor.Bi
open Go.RowKit Go.Shelf Go.Proofs.YtipmfficjomcoaaDoor Mem Held
attribute [local go_sem] Oper.semAt_some
attribute [local irreducible] wpList wpListIn Calls
def tzT : List Int := [0, 1, 56, 2, 57, 49, 28, 3, 61, 58, 42, 50, 38, 29, 17, 4, 62, 47, 59, 36, 45, 43, 51, 22, 53, 39, 33, 30, 24, 18, 12, 5, 63, 55, 48, 27, 60, 41, 37, 16, 46, 35, 44, 21, 52, 32, 23, 11, 54, 26, 40, 15, 34, 20, 31, 10, 25, 14, 19, 9, 13, 8, 7, 6]
def TzT (w : World) : Prop := Po.TabK w 1 .u8 tzT
theorem y_neg_ {P : Program} {S : World → Prop} {ρ : Operand → Value} {o : Oper} {t ty : TypeId} {x : Operand} {k : IntKind} {a r : Int} (ho : o.op = .unOp .neg t x) (hx : ρ x = .int k a) (hr : k.wrap (-a) = r) :
    ∀ w, S w → (execOp ρ o).run P w = .ok (.value (.int k r)) w := fun w _ => by
  subst hr
  simp [execOp, ho, hx, Op.unary, Op.intArith]
set_option maxRecDepth 100000 in
set_option maxHeartbeats 2000000 in
theorem padded_any (n : Int) (w : World) (h0 : -9223372036854775808 ≤ n) (h1 : n ≤ 9223372036854775807) :
    Calls Tryd.prog 65 #[.int .i64 n] w fun e w' => e = .returned (.int .i64 (padV n)) ∧ w = w' := by
  go_enter Tryd.func65, Tryd.ntmps65
  go_wp2_with fail
  go_loopw [3] (fun v wr => ∃ (k : Nat) (p : Int), v = .int .i64 p ∧ Hid (p = 2 ^ k) ∧ k ≤ 16 ∧ Hid (padF (16 - k) k n = padS n) ∧ w = wr) (fun v _ => (70000 - intOf v).toNat)
  case atStart => exact ⟨0, 1, rfl, Lib.hid (by simp), by omega, Lib.hid rfl, rfl⟩
  case round =>
    obtain ⟨k, p, rfl, hp, hk, hf, rfl⟩ := hrel
    have p1 : 1 ≤ p := by rw [hp.out]; exact two_pos k
    have p2 : p ≤ 65536 := by rw [hp.out]; exact two_16 hk
    by_cases c1 : p < n
    · by_cases c2 : p < 65536
      · have k16 : k < 16 := by
          rcases Nat.lt_or_ge k 16 with c | c
          · exact c
          · have : k = 16 := by omega
            have := hp.out
            subst k
            omega
        have HN := Lib.hid (show padF (16 - (k + 1)) (k + 1) n = padS n by
          rw [← hf.out, show 16 - k = (16 - (k + 1)) + 1 by omega]
          rw [hp.out] at c1
          conv => rhs; rw [padF, if_pos c1])
        have HP := Lib.hid (show p * 2 = 2 ^ (k + 1) by rw [hp.out, two_succ]; omega)
        go_wp2_with fail
        go_roundw
        case rel => exact ⟨k + 1, p * 2, by go_num, HP, by omega, HN, trivial⟩
        case measure => simp [intOf]; omega
      · have k16 : k = 16 := by
          rcases Nat.lt_or_ge k 16 with c | c
          · have := two_mono (show k ≤ 15 by omega)
            have h15 : (2 : Int) ^ 15 = 32768 := by decide
            rw [← hp.out] at this
            omega
          · omega
        have HN := Lib.hid (show p = padV n by
          have := hf.out
          rw [k16] at this
          unfold padV
          rw [← this, hp.out, k16]
          rfl)
        go_wp2_with fail
        go_ret
        exact ⟨by rw [HN.out]; rfl, rfl⟩
    · have HN := Lib.hid (show p = padV n by
        have := hf.out
        unfold padV
        rw [← this, hp.out]
        rw [hp.out] at c1
        cases hq : 16 - k with
        | zero => rfl
        | succ q => rw [padF, if_neg c1])
      go_wp2_with fail
      go_ret
      exact ⟨by rw [HN.out]; rfl, rfl⟩
theorem apart_any (t : Nat) (w : World) (h1 : 1 ≤ t) (h2 : t ≤ 16) :
    Calls Tryd.prog 78 #[.int .i64 (t : Int)] w fun e w' => e = .returned (.int .i64 (2 ^ (t - 1))) ∧ w = w' := by
  have hr := fun W : World => Rc.run_shl_ (P := Tryd.prog) 3 .i64 .i64 (a := 1) (t - 1) (by show t - 1 ≤ 64; omega) W
  have h3 := two_pos (t - 1)
  have h4 := two_16 (show t - 1 ≤ 16 by omega)
  rw [show (1 : Int) * 2 ^ (t - 1) = 2 ^ (t - 1) by omega] at hr
  obtain ⟨d, hd⟩ : ∃ d : Int, 2 ^ (t - 1) = d := ⟨_, rfl⟩
  rw [hd] at h3 h4 hr ⊢
  rw [show IntKind.i64.wrap d = d by rw [IntKind.wrap_i64]; omega] at hr
  have ht : IntKind.i64.wrap ((t : Int) - 1) = ((t - 1 : Nat) : Int) := by rw [IntKind.wrap_i64]; omega
  clear hd
  go_enter Tryd.func78, Tryd.ntmps78
  go_wp2_with (first
    | (refine Held.wpList_run (w := w) rfl (v := .int .i64 ((t - 1 : Nat) : Int)) (Held.y_int (S := fun _ => True) rfl rfl rfl (Held.run_sub 3 .i64 ht) _ trivial) ?_)
    | (refine Held.wpList_run (w := w) rfl (v := .int .i64 d) (Held.y_bin (S := fun _ => True) rfl rfl rfl (fun W => by simp [eqGuard]) hr _ trivial) ?_))
  go_ret
  exact ⟨rfl, rfl⟩
theorem lower_any (a : Int) (t : Nat) (w : World) (ha : 0 ≤ a) (ha' : a < 9223372036854775808) (h1 : 1 ≤ t) (h2 : t ≤ 16) :
    Calls Tryd.prog 77 #[.int .i64 a, .int .i64 (t : Int)] w fun e w' => e = .returned (.bool (decide (a / 2 ^ (t - 1) % 2 = 0))) ∧ w = w' := by
  have hb := bit_zero ha ha' (show t - 1 ≤ 16 by omega)
  rw [← hb]
  have HA := fun W => apart_any t W h1 h2
  obtain ⟨d, hd⟩ : ∃ d : Int, 2 ^ (t - 1) = d := ⟨_, rfl⟩
  rw [hd] at HA ⊢
  clear hd hb
  go_enter Tryd.func77, Tryd.ntmps77
  go_wp2_with fail
  refine (HA w).mono ?_
  rintro e w1 ⟨rfl, rfl⟩
  go_wp2_with (refine Held.wpList_run (w := w) rfl (v := .int .i64 (bits .and .i64 a d)) (Held.y_int (S := fun _ => True) rfl rfl rfl (Held.run_bitop (by simp) 3 .i64 rfl) _ trivial) ?_)
  go_ret
  exact ⟨Mem.ret_bool rfl, rfl⟩
theorem tz_index : ∀ s : Fin 17, (bits .and .u64 (2 ^ s.val) (IntKind.u64.wrap (-(2 ^ s.val)))) = 2 ^ s.val ∧ IntKind.u64.wrap (2 ^ s.val * 285870213051353865) / 2 ^ 58 = ((IntKind.u64.wrap (2 ^ s.val * 285870213051353865) / 2 ^ 58).toNat : Nat) ∧
    (IntKind.u64.wrap (2 ^ s.val * 285870213051353865) / 2 ^ 58).toNat < 64 ∧ tzT.getD (IntKind.u64.wrap (2 ^ s.val * 285870213051353865) / 2 ^ 58).toNat 0 = (s.val : Int) := by decide +kernel
set_option maxRecDepth 100000 in
set_option maxHeartbeats 2000000 in
theorem tz_any (s : Nat) (w : World) (hs : s ≤ 16) (hT : TzT w) :
    Calls Tryd.prog 81 #[.int .u64 (2 ^ s)] w fun e w' => e = .returned (.int .i64 (s : Int)) ∧ w = w' := by
  obtain ⟨e1, e2, e3, e4⟩ := tz_index ⟨s, by omega⟩
  simp only at e1 e2 e3 e4
  have p1 := two_pos s
  have p2 := two_16 hs
  obtain ⟨x, hx⟩ : ∃ x : Int, 2 ^ s = x := ⟨_, rfl⟩
  rw [hx] at p1 p2 e1 e2 e3 e4 ⊢
  obtain ⟨m, hm⟩ : ∃ m : Int, IntKind.u64.wrap (x * 285870213051353865) = m := ⟨_, rfl⟩
  rw [hm] at e2 e3 e4
  obtain ⟨j, hj⟩ : ∃ j : Nat, (m / 2 ^ 58).toNat = j := ⟨_, rfl⟩
  rw [hj] at e2 e3 e4
  have hc := Po.TabK.cell hT (i := j) (by simpa [tzT] using e3)
  rw [e4] at hc
  have hsh := fun W : World => Held.run_shr (P := Tryd.prog) 100 .u64 .u64 (a := m) (r := (j : Int)) 58 (by decide) e2 W
  obtain ⟨ng, hng⟩ : ∃ ng : Int, IntKind.u64.wrap (-x) = ng := ⟨_, rfl⟩
  rw [hng] at e1
  have x0 : ¬ x = 0 := by omega
  have hw : IntKind.i64.wrap (s : Int) = (s : Int) := by rw [IntKind.wrap_i64]; omega
  have hidx := fun W : World => Held.run_addr_arr (P := Tryd.prog) 102 5 64 1 j .u64 Tryd.underlying102 (by kernel_rfl) e3 W
  have HS := Lib.hid hs
  clear hs hj e2 hx p2
  go_enter Tryd.func81, Tryd.ntmps81
  go_wp2_with (first
    | (refine Held.wpList_run (w := w) rfl (v := .int .u64 ng) (y_neg_ (S := fun _ => True) rfl rfl hng _ trivial) ?_)
    | (refine Held.wpList_run (w := w) rfl (v := .int .u64 x) (Held.y_int (S := fun _ => True) rfl rfl rfl (Held.run_bitop (by simp) 100 .u64 e1) _ trivial) ?_)
    | (refine Held.wpList_run (w := w) rfl (v := .int .u64 m) (Held.y_int (S := fun _ => True) rfl rfl rfl (Held.run_mul 100 .u64 hm) _ trivial) ?_)
    | (refine Held.wpList_run (w := w) rfl (v := .int .u64 (j : Int)) (Held.y_bin (S := fun _ => True) rfl rfl rfl (fun W => by simp [eqGuard]) hsh _ trivial) ?_)
    | (refine Held.wpList_run (w := w) rfl (v := .pointer (some ⟨1, j, none⟩)) (Held.y_addr (S := fun _ => True) rfl rfl rfl hidx _ trivial) ?_)
    | (refine Held.wpList_run (w := w) rfl (v := .int .u8 (s : Int)) (Held.y_load (S := fun W => W = w) rfl rfl (by kernel_rfl) (fun W hW => by rw [hW]; exact hc) _ rfl) ?_))
  go_ret
  exact ⟨rfl, rfl⟩
theorem tzs_any (s : Nat) (w : World) (hs : s ≤ 16) (hT : TzT w) :
    Calls Tryd.prog 79 #[.int .u64 (2 ^ s)] w fun e w' => e = .returned (.int .i64 (s : Int)) ∧ w = w' := by
  have H := tz_any s w hs hT
  have p1 := two_pos s
  have p2 := two_16 hs
  obtain ⟨x, hx⟩ : ∃ x : Int, 2 ^ s = x := ⟨_, rfl⟩
  rw [hx] at p1 p2 H ⊢
  clear hx
  go_enter Tryd.func79, Tryd.ntmps79
  go_wp2_with fail
  refine H.mono ?_
  rintro e w1 ⟨rfl, rfl⟩
  go_wp2_with fail
  go_ret
  exact ⟨rfl, rfl⟩
theorem stages_any (n : Int) (w : World) (h0 : -9223372036854775808 ≤ n) (h1 : n ≤ 9223372036854775807) (hT : TzT w) :
    Calls Tryd.prog 72 #[.int .i64 n] w fun e w' => e = .returned (.int .i64 (stg n : Int)) ∧ w = w' := by
  have H := fun W => padded_any n W h0 h1
  by_cases hp : padV n = n
  · have hs : stg n = padS n := by unfold stg; rw [if_pos hp]
    have hn : n = 2 ^ padS n := hp.symm
    have HZ := tzs_any (padS n) w (padS_le n) hT
    rw [← hn] at HZ
    have p1 := two_pos (padS n)
    have p2 := two_16 (padS_le n)
    rw [← hn] at p1 p2
    rw [hp] at H
    rw [hs]
    have hwr : IntKind.u64.wrap n = n := by rw [IntKind.wrap_u64]; omega
    generalize padS n = q at *
    clear hn hp hs
    go_enter Tryd.func72, Tryd.ntmps72
    go_wp2_with fail
    refine (H w).mono ?_
    rintro e w1 ⟨rfl, rfl⟩
    go_wp2_with fail
    refine HZ.mono ?_
    rintro e w1 ⟨rfl, rfl⟩
    go_wp2_with fail
    go_ret
    exact ⟨rfl, rfl⟩
  · have hs : stg n = 0 := by unfold stg; rw [if_neg hp]
    rw [hs]
    generalize padV n = v at *
    go_enter Tryd.func72, Tryd.ntmps72
    go_wp2_with fail
    refine (H w).mono ?_
    rintro e w1 ⟨rfl, rfl⟩
    go_wp2_with fail
    go_ret
    exact ⟨rfl, rfl⟩
theorem rounds_any (n : Int) (w : World) (h0 : -9223372036854775808 ≤ n) (h1 : n ≤ 9223372036854775807) (hT : TzT w) :
    Calls Tryd.prog 63 #[.int .i64 n] w fun e w' => e = .returned (.int .i64 (tri (stg n) : Int)) ∧ w = w' := by
  have H := stages_any n w h0 h1 hT
  have h16 := stg_le n
  have htri : tri (stg n) = stg n * (stg n + 1) / 2 := rfl
  rw [htri]
  generalize stg n = q at *
  clear htri hT h0 h1
  have b : q * (q + 1) ≤ 16 * 17 := Nat.mul_le_mul h16 (by omega)
  obtain ⟨m, hm⟩ : ∃ m, q * (q + 1) = m := ⟨_, rfl⟩
  have hmul : IntKind.i64.wrap ((q : Int) * ((q : Int) + 1)) = (m : Int) := by
    rw [show (q : Int) * ((q : Int) + 1) = (m : Int) by rw [← hm]; simp, IntKind.wrap_i64]; omega
  rw [hm] at b ⊢
  clear hm
  have hq := Held.run_quo (P := Tryd.prog) 3 .i64 (a := (m : Int)) (b := 2) (r := ((m / 2 : Nat) : Int)) (by omega) (by rw [Int.tdiv_eq_ediv_of_nonneg (by omega), IntKind.wrap_i64]; omega)
  go_enter Tryd.func63, Tryd.ntmps63
  go_wp2_with fail
  refine H.mono ?_
  rintro e w1 ⟨rfl, rfl⟩
  go_wp2_with (first
    | (refine Held.wpList_run (w := w) rfl (v := .int .i64 (m : Int)) (Held.y_int (S := fun _ => True) rfl rfl rfl (Held.run_mul 3 .i64 hmul) _ trivial) ?_)
    | (refine Held.wpList_run (w := w) rfl (v := .int .i64 ((m / 2 : Nat) : Int)) (Held.y_int (S := fun _ => True) rfl rfl rfl hq _ trivial) ?_))
  go_ret
  exact ⟨rfl, rfl⟩
end Go.Proofs.YtipmfficjomcoaaDoor.Bi
namespace Go.Proofs.YtipmfficjomcoaaDoor.Bi
open Go.RowKit Go.Shelf Go.Proofs.YtipmfficjomcoaaDoor Mem Held
attribute [local go_sem] Oper.semAt_some
attribute [local irreducible] wpList wpListIn Calls
theorem Found.no {S : Nat} {r : Int} {s t : Nat} {ok : Bool} (h : Found S r s t ok) (hn : ¬ (0 ≤ r ∧ r < (tri S : Int))) : s = 0 ∧ t = 0 ∧ ok = false := by
  rcases h with ⟨h1, h2⟩ | ⟨h1, h2, h3, h4⟩
  · exact absurd h2.lt hn
  · exact ⟨h2, h3, h1⟩
theorem Found.yes {S : Nat} {r : Int} {s t s' t' : Nat} {ok : Bool} (h : Found S r s t ok) (ha : Stp S r s' t') : s = s' ∧ t = t' ∧ ok = true := by
  rcases h with ⟨h1, h2⟩ | ⟨h1, h2, h3, h4⟩
  · have := h2.unique ha
    exact ⟨this.1, this.2, h1⟩
  · exact absurd ha.lt h4
theorem results_tmp3 {fn : Func} {t u v : Tmp} (h : fn.results = #[.tmp t, .tmp u, .tmp v]) (tmps : Array Value) (P : Program) (w : World) :
    (results fn tmps).run P w = .ok (.tuple #[tmps.getD t undef, tmps.getD u undef, tmps.getD v undef]) w := by
  unfold results
  simp [h, go_sem]
set_option maxRecDepth 100000 in
set_option maxHeartbeats 4000000 in
theorem find_any (n r : Int) (S s t : Nat) (ok : Bool) (w : World) (h0 : -9223372036854775808 ≤ n) (h1 : n ≤ 9223372036854775807) (hT : TzT w) (hS : stg n = S) (hF : Found S r s t ok) :
    Calls Tryd.prog 76 #[.int .i64 n, .int .i64 r] w fun e w' => e = .returned (.tuple #[.int .i64 (s : Int), .int .i64 (t : Int), .bool ok]) ∧ w = w' := by
  have H := stages_any n w h0 h1 hT
  have hS16 := stg_le n
  rw [hS] at H hS16
  have HF := Lib.hid (fun hn => hF.no hn)
  have HY := Lib.hid (fun s' t' (ha : Stp S r s' t') => hF.yes ha)
  have HTS := Lib.hid tri_succ
  have HTL := Lib.hid (fun q (h : q ≤ 16) => tri_le h)
  have htri0 : (tri 0 : Int) = 0 := rfl
  clear hS hF hT h0 h1
  go_enter Tryd.func76, Tryd.ntmps76
  go_wp2_with fail
  apply wp_scope_straight
  go_wp2_with fail
  refine H.mono ?_
  rintro e w1 ⟨rfl, rfl⟩
  go_wp2_with fail
  apply wp_label
  go_wp2_with fail
  go_loopw [4, 5, 6, 7, 9] (fun x4 x5 x6 rd sv wr => ∃ q tq : Nat, x4 = .int .i64 0 ∧ x5 = .int .i64 0 ∧ x6 = .bool false ∧ rd = .int .i64 (tq : Int) ∧ Hid (tq = tri q) ∧ sv = .int .i64 ((q : Int) + 1) ∧ q ≤ S ∧ Hid (¬ (0 ≤ r ∧ r < (tri q : Int))) ∧ w = wr) (fun _ _ _ rd sv _ => (20 - intOf sv).toNat)
  case atStart => exact ⟨0, 0, rfl, rfl, rfl, by simp, Lib.hid rfl, rfl, by omega, Lib.hid (by rw [htri0]; omega), rfl⟩
  case round =>
    obtain ⟨q, tq, rfl, rfl, rfl, rfl, htq, rfl, hq, hr, rfl⟩ := hrel
    have htb : tq ≤ 136 := by rw [htq.out]; exact HTL.out q (by omega)
    by_cases hlt : q < S
    · have hlt' : (q : Int) + 1 ≤ (S : Int) := by omega
      go_wp2_with fail
      go_loopw [4, 5, 6, 7, 10] (fun x4 x5 x6 rd tv wr => ∃ j u : Nat, x4 = .int .i64 0 ∧ x5 = .int .i64 0 ∧ x6 = .bool false ∧ rd = .int .i64 (u : Int) ∧ Hid (u = tri q + (q + 1 - j)) ∧ u ≤ 200 ∧ tv = .int .i64 (j : Int) ∧ j ≤ q + 1 ∧ Hid (¬ (0 ≤ r ∧ r < (u : Int))) ∧ w = wr) (fun _ _ _ _ tv _ => (intOf tv).toNat)
      case atStart => exact ⟨q + 1, tq, rfl, rfl, rfl, rfl, Lib.hid (by rw [htq.out]; omega), by omega, by go_num, by omega, Lib.hid (by rw [htq.out]; exact hr.out), rfl⟩
      case round =>
        obtain ⟨j, u, rfl, rfl, rfl, rfl, hu, hu2, rfl, hj, hru, rfl⟩ := hrel
        by_cases hj1 : 1 ≤ j
        · have hj1' : (1 : Int) ≤ (j : Int) := by omega
          by_cases hur : (u : Int) = r
          · obtain ⟨e1, e2, e3⟩ := HY.out (q + 1) j ⟨hj1, hj, hlt, by rw [← hur, hu.out]; simp⟩
            have hd : decide ((u : Int) = r) = true := by simp [hur]
            subst e1 e2 e3
            go_wp2_with fail
            exact bodyPost_ret (results_tmp3 rfl _ _ _) rfl ⟨by simp, rfl⟩
          · go_wp2_with fail
            go_roundw
            case rel => exact ⟨j - 1, u + 1, rfl, rfl, rfl, by go_num, Lib.hid (by rw [hu.out]; omega), by have := hu.out; have := htq.out; omega, by go_num, by omega, Lib.hid (by have := hru.out; omega), trivial⟩
            case measure => simp [intOf]; omega
        · have hj0 : j = 0 := by omega
          subst hj0
          have HT := Lib.hid (show u = tri (q + 1) by rw [hu.out, HTS.out]; omega)
          go_wp2_with fail
          go_roundw
          case rel => exact ⟨q + 1, u, rfl, rfl, rfl, rfl, HT, by go_num, by omega, Lib.hid (by rw [← HT.out]; exact hru.out), trivial⟩
          case measure => simp [intOf]; omega
    · obtain rfl : q = S := by omega
      obtain ⟨rfl, rfl, rfl⟩ := HF.out hr.out
      go_wp2_with fail
      exact bodyPost_ret (results_tmp3 rfl _ _ _) rfl ⟨rfl, rfl⟩
theorem round_any (n r : Int) (w : World) : Calls Tryd.prog 69 #[.int .i64 n, .int .i64 r] w fun e w' => ∃ bn br : Nat, e = .returned (.func (.func 75) #[] #[.pointer (some ⟨bn, 0, none⟩), .pointer (some ⟨br, 0, none⟩)]) ∧
    Blk w' bn 3 #[.int .i64 n] ∧ Blk w' br 3 #[.int .i64 r] ∧ w.heap.size ≤ bn ∧ w.heap.size ≤ br ∧ Below w.heap.size w w' := by
  go_enter Tryd.func69, Tryd.ntmps69
  go_wp2_with (first
    | (refine Held.wpList_box_cell (w := w) rfl 3 _ rfl (.int .i64 n) rfl rfl ?_; intro u1 q1 g1 z1)
    | (refine Held.wpList_box_cell (w := u1) rfl 3 _ rfl (.int .i64 r) rfl rfl ?_; intro u2 q2 g2 z2))
  go_ret
  exact ⟨_, _, rfl, Held.keep_cells q1 g2 (by simp), q2, Nat.le_refl _, g1.size, ((Below.refl _ w).grown g1 (Nat.le_refl _) (by simp)).grown g2 g1.size (by simp)⟩
theorem Found.t1 {S : Nat} {r : Int} {s t : Nat} {ok : Bool} (h : Found S r s t ok) (h16 : S ≤ 16) (ho : ok = true) : 1 ≤ t ∧ t ≤ s ∧ s ≤ 16 := by
  rcases h with ⟨_, h2⟩ | ⟨h1, _⟩
  · exact ⟨h2.t1, h2.ts, Nat.le_trans h2.sS h16⟩
  · rw [ho] at h1; cases h1
set_option maxRecDepth 100000 in
set_option maxHeartbeats 4000000 in
theorem up_any (n r a : Int) (S s t : Nat) (ok : Bool) (w : World) (h0 : -9223372036854775808 ≤ n) (h1 : n ≤ 9223372036854775807) (ha0 : -9223372036854775808 ≤ a) (ha1 : a ≤ 9223372036854775807) (hT : TzT w) (hS : stg n = S) (hF : Found S r s t ok) :
    Calls Tryd.prog 70 #[.int .i64 n, .int .i64 r, .int .i64 a] w fun e w' => e = .returned (.bool (upV n s t ok a)) ∧ w = w' := by
  have H := find_any n r S s t ok w h0 h1 hT hS hF
  have h16 := stg_le n
  rw [hS] at h16
  have ht := hF.t1 h16
  clear hF hT hS
  cases ok with
  | false =>
    have hv : upV n s t false a = false := by simp [upV]
    rw [hv]
    go_enter Tryd.func70, Tryd.ntmps70
    go_wp2_with fail
    refine H.mono ?_
    rintro e w1 ⟨rfl, rfl⟩
    go_wp2_with fail
    go_ret
    exact ⟨rfl, rfl⟩
  | true =>
    obtain ⟨t1, t2, t3⟩ := ht rfl
    by_cases c0 : a < 0
    · have hv : upV n s t true a = false := by simp [upV]; intro h; omega
      rw [hv]
      go_enter Tryd.func70, Tryd.ntmps70
      go_wp2_with fail
      refine H.mono ?_
      rintro e w1 ⟨rfl, rfl⟩
      go_wp2_with fail
      go_ret
      exact ⟨rfl, rfl⟩
    by_cases c1 : n ≤ a
    · have hv : upV n s t true a = false := by simp [upV]; intro h h'; omega
      rw [hv]
      go_enter Tryd.func70, Tryd.ntmps70
      go_wp2_with fail
      refine H.mono ?_
      rintro e w1 ⟨rfl, rfl⟩
      go_wp2_with fail
      go_ret
      exact ⟨rfl, rfl⟩
    have HL := lower_any a t w (by omega) (by omega) t1 (by omega)
    have hv : upV n s t true a = (decide (a / 2 ^ (t - 1) % 2 = 0) && decide (a / 2 ^ s % 2 = 0)) := by
      have e1 : decide (0 ≤ a) = true := by simp; omega
      have e2 : decide (a < n) = true := by simp; omega
      unfold upV
      rw [e1, e2]
      simp
    have hsh := fun W : World => Held.run_shr (P := Tryd.prog) 3 .i64 .i64 (a := a) (r := a / 2 ^ s) s (by show s ≤ 64; omega) rfl W
    have hq0 : 0 ≤ a / 2 ^ s := Int.ediv_nonneg (by omega) (by have := two_pos s; omega)
    have hq1 : a / 2 ^ s < 9223372036854775808 := by
      have := Int.ediv_le_self (2 ^ s) (show 0 ≤ a by omega)
      omega
    have hb := bit_one hq0 hq1
    rw [hv, ← hb]
    obtain ⟨lw, hlw⟩ : ∃ b : Bool, decide (a / 2 ^ (t - 1) % 2 = 0) = b := ⟨_, rfl⟩
    rw [hlw] at HL ⊢
    generalize a / 2 ^ s = q at *
    clear hlw hb hv
    cases lw with
    | false =>
      go_enter Tryd.func70, Tryd.ntmps70
      go_wp2_with fail
      refine H.mono ?_
      rintro e w1 ⟨rfl, rfl⟩
      go_wp2_with fail
      refine HL.mono ?_
      rintro e w1 ⟨rfl, rfl⟩
      go_wp2_with fail
      go_ret
      exact ⟨rfl, rfl⟩
    | true =>
      go_enter Tryd.func70, Tryd.ntmps70
      go_wp2_with fail
      refine H.mono ?_
      rintro e w1 ⟨rfl, rfl⟩
      go_wp2_with fail
      refine HL.mono ?_
      rintro e w1 ⟨rfl, rfl⟩
      go_wp2_with (first
        | (refine Held.wpList_run (w := w) rfl (v := .int .i64 q) (Held.y_bin (S := fun _ => True) rfl rfl rfl (fun W => by simp [eqGuard]) hsh _ trivial) ?_)
        | (refine Held.wpList_run (w := w) rfl (v := .int .i64 (bits .and .i64 q 1)) (Held.y_int (S := fun _ => True) rfl rfl rfl (Held.run_bitop (by simp) 3 .i64 rfl) _ trivial) ?_))
      go_ret
      exact ⟨Mem.ret_bool rfl, rfl⟩
end Go.Proofs.YtipmfficjomcoaaDoor.Bi
namespace Go.Proofs.YtipmfficjomcoaaDoor.Held
open Go.RowKit
section
variable {P : Program} {ops : Array Oper} {Q Q' : Exit → Act → World → Prop} {n : Nat} {r : Option Nat} {rest : List Oper} {o : Oper} {a : Act} {w : World}
theorem opIn_wide (ho : ∀ c, o.op ≠ .defer c) (hp : ∀ ch a w, ¬ Q' (.panic ch) a w) (hl : ¬ LetsOut Q') {K : Act → World → Prop} (h : o.wp P a w K Q') : o.wpIn (wideR r) n P a w K Q := by
  refine ⟨fun _ _ => trivial, ?_⟩
  rw [Oper.semAt_plain (wideR r) _ _ ho]
  unfold Oper.wp at h
  generalize (execOp a.eval o).run P w = x at h
  cases x with
  | ok y w' =>
    cases y with
    | value v => exact h
    | skip => exact h
    | «defer» d => exact h
    | enter f args =>
      refine ⟨fun hd => absurd (show false = true from hd) (by simp), (calls_wideR (r := r) h).mono fun e w'' he => ?_⟩
      cases e
      · exact he
      · exact (hp _ _ _ he).elim
      · exact (hl he).elim
    | row row args => exact ⟨fun hd => absurd (show false = true from hd) (by simp), rows_wideR h⟩
    | _ => exact h.elim
  | halt y w' =>
    cases y <;> first | exact h.elim | exact (hp _ _ _ h).elim
theorem wpListIn_one {F : Fence} (hF : F = wideR r) (ho : ∀ c, o.op ≠ .defer c) (h : wpList P ops (fun e a' w' => e = .normal ∧ wpListIn F n P ops Q rest a' w') [o] a w) : wpListIn F n P ops Q (o :: rest) a w := by
  subst hF
  unfold wpList at h
  unfold wpListIn
  split
  · rename_i hw
    simp only [hw, if_true] at h
    rcases h with h | ⟨_, a', w', hx⟩
    · refine Oper.wpIn_mono (fun a' w' h' => ?_) (opIn_wide ho (fun ch a w hx => by cases hx.1) (fun ⟨a, w, hx⟩ => by cases hx.1) h)
      exact h'.2
    · cases hx.1
  · rename_i hw
    simp only [hw] at h
    exact ⟨fun _ _ => trivial, h.2⟩
end
end Go.Proofs.YtipmfficjomcoaaDoor.Held
namespace Go.Proofs.YtipmfficjomcoaaDoor.Bi
open Go.RowKit Go.Shelf Go.Proofs.YtipmfficjomcoaaDoor Mem Held Go.Proofs.YtipmfficjomcoaaDoor.Range
attribute [local go_sem] Oper.semAt_some
attribute [local irreducible] wpList wpListIn Calls
theorem firsts_prefix (d : Nat) {k : Nat} : ∀ {n : Nat}, k ≤ n → Net.firsts d k <+: Net.firsts d n
  | 0, h => by have : k = 0 := by omega
               subst this; exact List.prefix_refl _
  | n + 1, h => by
    rcases Nat.lt_or_ge k (n + 1) with c | c
    · rw [Net.firsts_succ]
      exact (firsts_prefix d (show k ≤ n by omega)).trans (List.prefix_append _ _)
    · have : k = n + 1 := by omega
      subst this; exact List.prefix_refl _
theorem firsts_length_le (d : Nat) : ∀ k, (Net.firsts d k).length ≤ k := fun k => by
  unfold Net.firsts
  have := List.length_filter_le (fun a => decide (a / d % 2 = 0)) (List.range k)
  simpa using this
def pairsOf (n : Int) (t : Nat) (ok : Bool) : List Nat := if ok then Net.firsts (2 ^ (t - 1)) n.toNat else []
theorem Found.is {n : Int} {r : Int} {s t : Nat} {ok : Bool} (h : Found (stg n) r s t ok) (ho : ok = true) : n = ((2 ^ stg n : Nat) : Int) ∧ 1 ≤ t ∧ t ≤ s ∧ s ≤ stg n ∧ stg n ≤ 16 := by
  have h16 := stg_le n
  rcases h with ⟨_, h2⟩ | ⟨h1, _⟩
  · have := h2.t1
    have := h2.ts
    have := h2.sS
    rcases stg_is n with e | ⟨e, _⟩
    · exact ⟨by rw [← two_nat]; exact e, by omega, by omega, by omega, h16⟩
    · omega
  · rw [ho] at h1; cases h1
end Go.Proofs.YtipmfficjomcoaaDoor.Bi
namespace Go.Proofs.YtipmfficjomcoaaDoor.Sl
open Go.RowKit Go.Shelf Mem Held
structure St (α : Type) where
  s : Nat
  cells : α → List Value
  wf : α → Prop
  d : α
  len : ∀ x, (cells x).length = s
  one : ∀ x, ∀ u ∈ cells x, u.oneCell' = true
  pos : 0 < s
section
variable {α : Type} {k : St α}
def flat (k : St α) (xs : List α) : List Value := xs.flatMap k.cells
theorem flat_length (k : St α) : ∀ xs : List α, (flat k xs).length = xs.length * k.s
  | [] => by simp [flat]
  | x :: xs => by
    have := flat_length k xs
    simp only [flat, List.flatMap_cons, List.length_append, List.length_cons, k.len] at this ⊢
    rw [this, Nat.add_mul, Nat.one_mul, Nat.add_comm]
theorem flat_append (xs ys : List α) : flat k (xs ++ ys) = flat k xs ++ flat k ys := by simp [flat]
theorem flat_at : ∀ (xs : List α) (i j : Nat), j < k.s → i < xs.length → (flat k xs)[i * k.s + j]? = (k.cells (xs.getD i k.d))[j]?
  | [], i, j, _, h => absurd h (by simp)
  | x :: xs, 0, j, hj, _ => by
    simp only [flat, List.flatMap_cons, Nat.zero_mul, Nat.zero_add, List.getD_cons_zero]
    rw [List.getElem?_append_left (by rw [k.len]; exact hj)]
  | x :: xs, i + 1, j, hj, h => by
    have := flat_at xs i j hj (by simpa using h)
    simp only [flat, List.flatMap_cons, List.getD_cons_succ] at this ⊢
    have hm : (i + 1) * k.s + j = k.s + (i * k.s + j) := by rw [Nat.add_mul, Nat.one_mul]; omega
    rw [List.getElem?_append_right (by rw [k.len]; omega), k.len, hm, Nat.add_sub_cancel_left, this]
theorem flat_cell (xs : List α) : ∀ u ∈ flat k xs, u.oneCell' = true := fun u hu => by
  obtain ⟨x, _, h⟩ := List.mem_flatMap.1 hu
  exact k.one x u h
def Lst (k : St α) (w : World) (B : Nat) (A : Option Addr) (n : Nat) (xs : List α) : Prop :=
  xs.length = n ∧ (∀ x ∈ xs, k.wf x) ∧ (0 < n → ∃ b off, A = some ⟨b, off, none⟩ ∧ b < B ∧ w.rangeAt b off (flat k xs))
variable {w w' : World} {B B' n : Nat} {A : Option Addr} {xs : List α}
theorem Lst.nil (k : St α) (w : World) (B : Nat) (A : Option Addr) : Lst k w B A 0 [] := ⟨rfl, by simp, fun h => absurd h (by omega)⟩
theorem Lst.keep (h : Lst k w B A n xs) (hk : ∀ p : Addr, p.block < B → w'.cell? p = w.cell? p) : Lst k w' B A n xs :=
  ⟨h.1, h.2.1, fun hn => by
    obtain ⟨b, off, e, hb, hc⟩ := h.2.2 hn
    exact ⟨b, off, e, hb, fun j v hv => (hk ⟨b, off + j, none⟩ hb).trans (hc j v hv)⟩⟩
theorem Lst.more (h : Lst k w B A n xs) (hB : B ≤ B') : Lst k w B' A n xs :=
  ⟨h.1, h.2.1, fun hn => by
    obtain ⟨b, off, e, hb, hc⟩ := h.2.2 hn
    exact ⟨b, off, e, by omega, hc⟩⟩
theorem Lst.below (h : Lst k w B A n xs) (hb : Below B w w') : Lst k w' B A n xs := h.keep fun _ hp => hb.cell hp
theorem Lst.at_ (h : Lst k w B A n xs) {i : Nat} (hi : i < n) : ∃ b off, A = some ⟨b, off, none⟩ ∧ b < B ∧ w.rangeAt b (off + i * k.s) (k.cells (xs.getD i k.d)) := by
  obtain ⟨b, off, e, hb, hc⟩ := h.2.2 (by omega)
  refine ⟨b, off, e, hb, fun j v hv => ?_⟩
  have hj : j < k.s := by have := (List.getElem?_eq_some_iff.1 hv).1; rwa [k.len] at this
  rw [Nat.add_assoc]
  exact hc (i * k.s + j) v (by rw [flat_at xs i j hj (by rw [h.1]; exact hi)]; exact hv)
theorem lst_of_blk {g : Nat} {t : TypeId} {ys : List α} (h : Blk w g t (flat k (xs ++ ys)).toArray) (hw : ∀ x ∈ xs, k.wf x) : Lst k w w.heap.size (some ⟨g, 0, none⟩) xs.length xs :=
  ⟨rfl, hw, fun _ => ⟨g, 0, rfl, h.lt, fun j v hv => by
    rw [Nat.zero_add]
    refine h.cell ?_
    rw [List.getElem?_toArray, flat_append, List.getElem?_append_left (List.getElem?_eq_some_iff.1 hv).1]
    exact hv⟩⟩
theorem lst_whole {g : Nat} {t : TypeId} (h : Blk w g t (flat k xs).toArray) (hn : xs.length = n) (hw : ∀ x ∈ xs, k.wf x) : Lst k w w.heap.size (some ⟨g, 0, none⟩) n xs := by
  subst hn
  exact lst_of_blk (ys := []) (by rw [List.append_nil]; exact h) hw
def OwnL (k : St α) (t : TypeId) (w : World) (base : Nat) (v : Value) (xs : List α) : Prop := w.ownsRow base t k.s v xs.length (flat k xs)
variable {t : TypeId} {base : Nat} {v : Value}
theorem OwnL.nil (k : St α) (t : TypeId) (w : World) (base : Nat) : OwnL k t w base (.slice none 0 0) [] := ⟨by simp [flat], .inl ⟨rfl, rfl⟩⟩
theorem OwnL.form (h : OwnL k t w base v xs) : ∃ A c, v = .slice A xs.length c ∧ xs.length ≤ c ∧ c ≤ maxLen := Held.row_form h
theorem OwnL.form2 (h : OwnL k t w base v xs) : ∃ A n c, v = .slice A n c ∧ Hid (xs.length = n) ∧ n ≤ c ∧ c ≤ maxLen := by
  obtain ⟨A, c, e, h1, h2⟩ := h.form
  exact ⟨A, _, c, e, Lib.hid rfl, h1, h2⟩
theorem OwnL.ne_blk (h : OwnL k t w base v xs) {g : Nat} {t' : TypeId} {cs : Array Value} (hb : Blk w g t' cs) (ht : t ≠ t') : v.ownBlock ≠ some g := fun e => by
  rcases h.2 with ⟨rfl, _⟩ | ⟨g', cap, cur, rfl, _, hg, _⟩
  · cases e
  · have e : some g' = some g := e
    injection e with e
    subst e
    have hb : w.heap[g']? = some (.cells cs t' (0, 0)) := hb
    rw [hg] at hb
    injection hb with hb
    injection hb with _ hb
    exact ht hb
theorem OwnL.kept (h : OwnL k t w base v xs) {row : Option Nat} (hg : w.grownBy w' row) (hne : v.ownBlock = none ∨ v.ownBlock ≠ row) : OwnL k t w' base v xs := World.ownsRow.kept h hg hne
theorem OwnL.below (h : OwnL k t w base v xs) (hb : Below w.heap.size w w') : OwnL k t w' base v xs := h.kept (grown_of_below hb none) (by cases v.ownBlock <;> simp)
theorem OwnL.lt (h : OwnL k t w base v xs) : ∀ b, v.ownBlock = some b → base ≤ b ∧ b < w.heap.size := World.ownsRow.lt h
theorem OwnL.less (h : OwnL k t w base v xs) {b : Nat} (hb : b ≤ base) : OwnL k t w b v xs := by
  refine ⟨h.1, ?_⟩
  rcases h.2 with h0 | ⟨g, cap, cur, e, hg, rest⟩
  · exact .inl h0
  · exact .inr ⟨g, cap, cur, e, Nat.le_trans hb hg, rest⟩
theorem OwnL.lst {c : Nat} (h : OwnL k t w base (.slice A n c) xs) (hw : ∀ x ∈ xs, k.wf x) : Lst k w w.heap.size A n xs := by
  rcases h.2 with ⟨e, hn⟩ | ⟨g, cap, cur, e, hb, hg, hnc, hcm, hcs, ht⟩
  · injection e with e1 e2 e3
    subst e1
    subst e2
    have : xs = [] := List.eq_nil_of_length_eq_zero hn
    subst this
    exact Lst.nil _ _ _ _
  · injection e with e1 e2 e3
    subst e1
    subst e2
    refine ⟨rfl, hw, fun _ => ⟨g, 0, rfl, (Array.getElem?_eq_some_iff.1 hg).1, fun j v hv => ?_⟩⟩
    rw [Nat.zero_add, cell_of_row w g j _ _ (0, 0) hg]
    have hj := (List.getElem?_eq_some_iff.1 hv).1
    rw [flat_length] at hj
    have := congrArg (fun l => l[j]?) ht
    simp only [List.getElem?_take, hj, if_true] at this
    rw [← hv, ← this]
    simp
theorem own_of_blk {g : Nat} (h : Blk w g t (flat k xs).toArray) (hb : base ≤ g) (hm : xs.length ≤ maxLen) : OwnL k t w base (.slice (some ⟨g, 0, none⟩) xs.length xs.length) xs :=
  ⟨flat_length k xs, .inr ⟨g, xs.length, _, rfl, hb, h, Nat.le_refl _, hm, by simp [flat_length], by rw [List.take_of_length_le (by simp [flat_length])]⟩⟩
end
section
variable {α : Type} {k : St α} {P : Program} {ops : Array Oper} {rest : List Oper} {o : Oper} {a : Act} {w : World} {Q : Exit → Act → World → Prop}
theorem wpList_build_lst (hgd : o.guard = none) (ts e : TypeId) (n : Nat) (parts : Array (Nat × Operand)) (ho : o.op = .buildSlice ts n parts) (hu : P.underlying ts = some (.slice e)) (z : Value) (bytes : Nat) (hinfo : (P.info? e).map (fun i => (i.zero, i.size, i.bytes)) = some (some z, k.s, bytes)) (hz : z.cells.size = k.s)
    (xs : List α) (hn : xs.length = n) (hp : (parts.map fun (i, x) => (i, a.eval x)).toList = ((xs.map fun x => Value.agg (k.cells x).toArray).zipIdx 0).map fun x => (x.2, x.1)) (h0 : 0 < n) (h24 : n * k.s ≤ 16777216)
    (h : ∀ w', Blk w' w.heap.size e (flat k xs).toArray → w.grownBy w' none → Hid (w'.heap.size = w.heap.size + 1) → wpList P ops Q rest (a.put o.dst (.slice (some ⟨w.heap.size, 0, none⟩) n n)) w') : wpList P ops Q (o :: rest) a w := by
  obtain ⟨ie, hie, hz0, hs, hb⟩ := info_parts hinfo
  refine Go.wpList_buildSlice hgd ts e n parts ho (flat k xs).toArray ie z hu hie hz0 (by rw [hs]; omega) (by rw [hs]; have := Nat.mul_pos h0 k.pos; omega) ?_ (h _ (heap_alloc_new w _) (World.grownBy_alloc w _ none) (Lib.hid (by simp)))
  rw [hp, hs]
  refine (Great.fill_whole k.pos (xs.map fun x => Value.agg (k.cells x).toArray) _ (fun v hv => ?_) (by simp [hn])).trans ?_
  · obtain ⟨x, _, rfl⟩ := List.mem_map.1 hv
    simp [Value.cells, k.len]
  · rw [List.flatMap_map]
    simp [flat, Value.cells]
theorem wpList_append_lst (hgd : o.guard = none) (s x : Operand) (ts e : TypeId) (ho : o.op = .call { callee := .builtin .append, args := #[s, x], argTypes := #[ts, ts] }) (hu : P.underlying ts = some (.slice e)) (z : Value) (bytes : Nat) (hinfo : (P.info? e).map (fun i => (i.zero, i.size, i.bytes)) = some (some z, k.s, bytes)) (hz : z.cells.size = k.s)
    (base B g off m c : Nat) (v : Value) (xs ys : List α) (hs : a.eval s = v) (hx : a.eval x = .slice (some ⟨g, off, none⟩) m c) (hown : OwnL k e w base v xs) (hq : Lst k w B (some ⟨g, off, none⟩) m ys) (hm : xs.length + m ≤ 1048576) (hby : bytes ≤ 1048576) (hbase : base ≤ w.heap.size)
    (h : ∀ v' w', OwnL k e w' base v' (xs ++ ys) → w.grownBy w' v.ownBlock → (v'.ownBlock = v.ownBlock ∨ v'.ownBlock = some w.heap.size) → wpList P ops Q rest (a.put o.dst v') w') : wpList P ops Q (o :: rest) a w := by
  obtain ⟨ie, hie, hz0, hsz, hb⟩ := info_parts hinfo
  have hcells : ∀ j u, (flat k ys)[j]? = some u → w.cell? ((Addr.mk g off none).add j) = some u := fun j u hu => by
    have hj := (List.getElem?_eq_some_iff.1 hu).1
    have hm0 : 0 < m := by
      rcases Nat.eq_zero_or_pos m with h0 | h0
      · have : ys = [] := List.eq_nil_of_length_eq_zero (by rw [hq.1, h0])
        rw [this] at hj
        simp [flat] at hj
      · exact h0
    obtain ⟨b, off', e, _, hc⟩ := hq.2.2 hm0
    injection e with e
    injection e with e1 e2
    subst e1
    subst e2
    rw [show (Addr.mk g off none).add j = ⟨g, off + j, none⟩ by (unfold Addr.add; split <;> simp_all)]
    exact hc j u hu
  refine wpList_append_own_at w hgd s x ts ho base e ie _ k.s bytes hu hie hz0 hsz hb hz k.pos v xs.length (flat k xs) hs hown ⟨g, off, none⟩ m c (flat k ys) hx (by rw [flat_length, hq.1]) hcells (flat_cell ys) (by unfold maxLen; omega)
    (Nat.le_trans (Nat.mul_le_mul hm hby) (by omega)) hbase ?_
  intro v' w' h1 h2 _ h4
  refine h v' w' ?_ h2 h4
  unfold OwnL
  rw [flat_append, List.length_append, hq.1]
  exact h1
end
end Go.Proofs.YtipmfficjomcoaaDoor.Sl
namespace Go.Proofs.YtipmfficjomcoaaDoor.Sh
open Go.RowKit Go.Shelf Mem Held Sl
structure Tk where
  kd : Int
  rd : Int
  a : Int
  b : Int
  up : Bool
structure Sp where
  ph : Int
  rd : Int
  ad : Int
structure Gr where
  kd : Int
  rd : Int
  sz : Nat
  fi : Nat
def Tk.cells (t : Tk) : List Value := [.int .i64 t.kd, .int .i64 t.rd, .int .i64 t.a, .int .i64 t.b, .bool t.up]
def Sp.cells (s : Sp) : List Value := [.int .i64 s.ph, .int .i64 s.rd, .int .i64 s.ad]
def Tk.wf (t : Tk) : Prop := (Lit.int .i64 t.kd).wf = true ∧ (Lit.int .i64 t.rd).wf = true ∧ (Lit.int .i64 t.a).wf = true ∧ (Lit.int .i64 t.b).wf = true
def Sp.wf (s : Sp) : Prop := (Lit.int .i64 s.ph).wf = true ∧ (Lit.int .i64 s.rd).wf = true ∧ (Lit.int .i64 s.ad).wf = true
def T0 : Tk := ⟨0, 0, 0, 0, false⟩
def S0 : Sp := ⟨0, 0, 0⟩
theorem tk_one (t : Tk) : ∀ u ∈ t.cells, u.oneCell' = true := fun u hu => by
  simp only [Tk.cells, List.mem_cons, List.not_mem_nil, or_false] at hu
  rcases hu with rfl | rfl | rfl | rfl | rfl <;> rfl
theorem sp_one (s : Sp) : ∀ u ∈ s.cells, u.oneCell' = true := fun u hu => by
  simp only [Sp.cells, List.mem_cons, List.not_mem_nil, or_false] at hu
  rcases hu with rfl | rfl | rfl <;> rfl
def kT : St Tk := ⟨5, Tk.cells, Tk.wf, T0, fun _ => rfl, tk_one, by omega⟩
def kS : St Sp := ⟨3, Sp.cells, Sp.wf, S0, fun _ => rfl, sp_one, by omega⟩
theorem Tk.ext' {x y : Tk} (h1 : x.kd = y.kd) (h2 : x.rd = y.rd) (h3 : x.a = y.a) (h4 : x.b = y.b) (h5 : x.up = y.up) : x = y := by
  cases x
  cases y
  simp_all
instance decT : DecidableEq Tk := fun x y =>
  if h : x.kd = y.kd ∧ x.rd = y.rd ∧ x.a = y.a ∧ x.b = y.b ∧ x.up = y.up then .isTrue (Tk.ext' h.1 h.2.1 h.2.2.1 h.2.2.2.1 h.2.2.2.2)
  else .isFalse fun e => h (by rw [e]; exact ⟨rfl, rfl, rfl, rfl, rfl⟩)
theorem Sp.ext' {x y : Sp} (h1 : x.ph = y.ph) (h2 : x.rd = y.rd) (h3 : x.ad = y.ad) : x = y := by
  cases x
  cases y
  simp_all
instance decS : DecidableEq Sp := fun x y =>
  if h : x.ph = y.ph ∧ x.rd = y.rd ∧ x.ad = y.ad then .isTrue (Sp.ext' h.1 h.2.1 h.2.2)
  else .isFalse fun e => h (by rw [e]; exact ⟨rfl, rfl, rfl⟩)
def stF : Nat → Nat → Nat → Nat × Nat
  | 0, s, r => (s, s - r)
  | f + 1, s, r => if r < s then (s, s - r) else stF f (s + 1) (r - s)
def stT (r : Nat) : Nat × Nat := stF 16 1 r
theorem stF_stp : ∀ (f s r S : Nat), 1 ≤ s → s ≤ S → Bi.tri (s - 1) + r < Bi.tri S → S ≤ s + f → Bi.Stp S ((Bi.tri (s - 1) + r : Nat) : Int) (stF f s r).1 (stF f s r).2
  | 0, s, r, S => by
    intro h1 h2 h3 h4
    obtain rfl : s = S := by omega
    obtain ⟨q, rfl⟩ : ∃ q, s = q + 1 := ⟨s - 1, by omega⟩
    rw [Bi.tri_succ, Nat.add_sub_cancel] at h3
    refine ⟨by simp only [stF]; omega, by simp only [stF]; omega, Nat.le_refl _, ?_⟩
    simp only [stF, Nat.add_sub_cancel]
    omega
  | f + 1, s, r, S => by
    intro h1 h2 h3 h4
    obtain ⟨q, rfl⟩ : ∃ q, s = q + 1 := ⟨s - 1, by omega⟩
    unfold stF
    split
    · rename_i h
      refine ⟨by simp only; omega, by simp only; omega, h2, ?_⟩
      simp only [Nat.add_sub_cancel]
      omega
    · rename_i h
      have hS : q + 1 ≠ S := by
        rintro rfl
        rw [Bi.tri_succ, Nat.add_sub_cancel] at h3
        omega
      have e := Bi.tri_succ q
      have := stF_stp f (q + 1 + 1) (r - (q + 1)) S (by omega) (by omega) (by simp only [Nat.add_sub_cancel] at h3 ⊢; omega) (by omega)
      simp only [Nat.add_sub_cancel] at this ⊢
      rw [show Bi.tri q + r = Bi.tri (q + 1) + (r - (q + 1)) by omega]
      exact this
theorem stT_stp {r S : Nat} (h : r < Bi.tri S) (hS : S ≤ 16) : Bi.Stp S (r : Int) (stT r).1 (stT r).2 := by
  have h1 : 1 ≤ S := by
    rcases Nat.eq_zero_or_pos S with e | e
    · subst e; rw [Bi.tri_zero] at h; omega
    · exact e
  have := stF_stp 16 1 r S (by omega) h1 (by simp only [Nat.sub_self, Bi.tri_zero]; omega) (by omega)
  simpa [stT, Bi.tri_zero] using this
def pairT (kd : Int) (M r a : Nat) : Tk := ⟨kd, (r : Int) + 1, a, (a : Int) + 2 ^ ((stT r).2 - 1), Bi.upV M (stT r).1 (stT r).2 true a⟩
def roundT (kd : Int) (M r : Nat) : List Tk := (Net.firsts (2 ^ ((stT r).2 - 1)) M).map (pairT kd M r)
def sortsT (kd : Int) (M T : Nat) : List Tk := (List.range T).flatMap (roundT kd M)
def oneT (kd : Int) (a : Nat) : Tk := ⟨kd, 0, a, 0, false⟩
def tasksT (I mp M T : Nat) : List Tk :=
  (List.range I).map (oneT 1) ++ (List.range (M - mp)).map (fun i => oneT 2 (mp + i)) ++ sortsT 3 M T ++ (List.range M).map (oneT 4) ++ sortsT 5 M T
def tkOf (mp M : Nat) (g : Gr) : List Tk := if g.rd = 0 then (List.range g.sz).map (fun i => oneT g.kd ((if g.kd = 2 then mp else 0) + i)) else roundT g.kd M (g.rd - 1).toNat
def nrK (T k : Nat) : Nat := if k = 3 ∨ k = 5 then T else 1
def frK (k : Nat) : Nat := if k = 3 ∨ k = 5 then 1 else 0
def szK (I mp M k : Nat) : Nat := if k = 1 then I else if k = 2 then M - mp else if k = 4 then M else M / 2
def ixK (T : Nat) : Nat → Nat
  | 0 => 0
  | 1 => 0
  | k + 1 => ixK T k + nrK T k
def cnK (I mp M T : Nat) : Nat → Nat
  | 0 => 0
  | 1 => 0
  | k + 1 => cnK I mp M T k + nrK T k * szK I mp M k
def grK (I mp M T k i : Nat) : Gr := ⟨k, (frK k + i : Nat), szK I mp M k, cnK I mp M T k + i * szK I mp M k⟩
def grsK (I mp M T k : Nat) : List Gr := (List.range (nrK T k)).map (grK I mp M T k)
def grs (I mp M T : Nat) : List Gr := grsK I mp M T 1 ++ grsK I mp M T 2 ++ grsK I mp M T 3 ++ grsK I mp M T 4 ++ grsK I mp M T 5
section
variable {I mp M T : Nat}
theorem grsK_length (k : Nat) : (grsK I mp M T k).length = nrK T k := by simp [grsK]
theorem grs_length : (grs I mp M T).length = ixK T 6 := by simp [grs, grsK_length, ixK, nrK]; omega
theorem grs_at {k i : Nat} (h1 : 1 ≤ k) (h5 : k ≤ 5) (hi : i < nrK T k) : (grs I mp M T)[ixK T k + i]? = some (grK I mp M T k i) := by
  have hk : k = 1 ∨ k = 2 ∨ k = 3 ∨ k = 4 ∨ k = 5 := by omega
  have hg : ∀ k i, i < nrK T k → (grsK I mp M T k)[i]? = some (grK I mp M T k i) := fun k i hi => by simp [grsK, hi]
  unfold grs
  rcases hk with rfl | rfl | rfl | rfl | rfl
  all_goals simp [nrK] at hi
  · subst hi
    have e := hg 1 0 (by simp [nrK])
    rw [List.append_assoc, List.append_assoc, List.append_assoc, List.getElem?_append_left (by simp [grsK_length, ixK, nrK])]
    exact e
  · subst hi
    have e := hg 2 0 (by simp [nrK])
    rw [List.append_assoc, List.append_assoc, List.append_assoc, List.getElem?_append_right (by simp [grsK_length, ixK, nrK]), List.getElem?_append_left (by simp [grsK_length, ixK, nrK])]
    simpa [grsK_length, ixK, nrK] using e
  · have e := hg 3 i (by simp [nrK]; exact hi)
    rw [List.append_assoc, List.append_assoc, List.getElem?_append_right (by simp [grsK_length, ixK, nrK]), List.getElem?_append_left (by simp [grsK_length, ixK, nrK]; omega)]
    rw [show ixK T 3 + i - (grsK I mp M T 1 ++ grsK I mp M T 2).length = i by simp [grsK_length, ixK, nrK]]
    exact e
  · subst hi
    have e := hg 4 0 (by simp [nrK])
    have l3 : (grsK I mp M T 1 ++ grsK I mp M T 2 ++ grsK I mp M T 3).length = ixK T 4 := by simp [grsK_length, ixK, nrK]; omega
    rw [List.append_assoc, List.getElem?_append_right (by rw [l3]; omega), List.getElem?_append_left (by rw [l3, grsK_length]; simp [nrK])]
    rw [l3, Nat.add_zero, Nat.sub_self]
    exact e
  · have e := hg 5 i (by simp [nrK]; exact hi)
    rw [List.getElem?_append_right (by simp [grsK_length, ixK, nrK]; omega)]
    rw [show ixK T 5 + i - (grsK I mp M T 1 ++ grsK I mp M T 2 ++ grsK I mp M T 3 ++ grsK I mp M T 4).length = i by simp [grsK_length, ixK, nrK]; omega]
    exact e
theorem grs_end : (grs I mp M T)[ixK T 6]? = none := by
  rw [List.getElem?_eq_none_iff, grs_length]
  exact Nat.le_refl _
def Chn (f : Gr → List Tk) : Nat → List Gr → Prop
  | _, [] => True
  | c, g :: r => g.fi = c ∧ (f g).length = g.sz ∧ Chn f (c + g.sz) r
theorem chn_append {f : Gr → List Tk} : ∀ {a b : List Gr} {c : Nat}, Chn f c a → Chn f (c + (a.flatMap f).length) b → Chn f c (a ++ b)
  | [], b, c, _, h => by simpa using h
  | g :: a, b, c, h, h' => by
    obtain ⟨h1, h2, h3⟩ := h
    refine ⟨h1, h2, chn_append h3 ?_⟩
    rw [List.flatMap_cons, List.length_append, h2, ← Nat.add_assoc] at h'
    exact h'
theorem chn_at {f : Gr → List Tk} : ∀ {gs : List Gr} {c k : Nat} {g : Gr}, Chn f c gs → gs[k]? = some g → c + ((gs.take k).flatMap f).length = g.fi ∧ (f g).length = g.sz
  | [], _, _, _, _, h => by simp at h
  | g :: r, c, 0, g', h, e => by
    simp at e
    subst e
    exact ⟨by simp; exact h.1.symm, h.2.1⟩
  | g :: r, c, k + 1, g', h, e => by
    have := chn_at h.2.2 (k := k) (g := g') (by simpa using e)
    refine ⟨?_, this.2⟩
    rw [List.take_succ_cons, List.flatMap_cons, List.length_append, h.2.1, ← Nat.add_assoc]
    exact this.1
theorem flat_split {f : Gr → List Tk} {gs : List Gr} {k : Nat} {g : Gr} (h : gs[k]? = some g) : gs.flatMap f = (gs.take k).flatMap f ++ f g ++ (gs.drop (k + 1)).flatMap f := by
  have hlt := (List.getElem?_eq_some_iff.1 h).1
  have e : gs = gs.take k ++ g :: gs.drop (k + 1) := by
    rw [← (List.getElem?_eq_some_iff.1 h).2, List.getElem_cons_drop, List.take_append_drop]
  conv => lhs; rw [e]
  rw [List.flatMap_append, List.flatMap_cons, List.append_assoc]
theorem flat_at {f : Gr → List Tk} {gs : List Gr} {k i : Nat} {g : Gr} (hc : Chn f 0 gs) (h : gs[k]? = some g) (hi : i < g.sz) : (gs.flatMap f)[g.fi + i]? = (f g)[i]? := by
  obtain ⟨h1, h2⟩ := chn_at hc h
  rw [Nat.zero_add] at h1
  rw [flat_split h, List.append_assoc, List.getElem?_append_right (by omega), h1, Nat.add_sub_cancel_left, List.getElem?_append_left (by omega)]
theorem take_next {f : Gr → List Tk} {gs : List Gr} {k : Nat} {g : Gr} (hc : Chn f 0 gs) (h : gs[k]? = some g) : ((gs.take (k + 1)).flatMap f).length = g.fi + g.sz := by
  obtain ⟨h1, h2⟩ := chn_at hc h
  rw [List.take_add_one, h, List.flatMap_append, List.length_append, Option.toList_some, List.flatMap_cons, List.flatMap_nil, List.append_nil, h2]
  omega
theorem take_end {f : Gr → List Tk} {gs : List Gr} {k : Nat} (h : gs[k]? = none) : (gs.take k).flatMap f = gs.flatMap f := by
  rw [List.getElem?_eq_none_iff] at h
  rw [List.take_of_length_le h]
theorem half_pairs {S : Nat} (h1 : 1 ≤ S) (h5 : S ≤ 5) {r : Nat} (hr : r < Bi.tri S) : (Net.firsts (2 ^ ((stT r).2 - 1)) (2 ^ S)).length = 2 ^ S / 2 := by
  have hT : ∀ S : Fin 6, ∀ r : Fin 15, 1 ≤ S.val → r.val < Bi.tri S.val → (Net.firsts (2 ^ ((stT r.val).2 - 1)) (2 ^ S.val)).length = 2 ^ S.val / 2 := by decide +kernel
  have h15 : Bi.tri S ≤ 15 := Bi.tri_mono h5
  exact hT ⟨S, by omega⟩ ⟨r, by omega⟩ h1 hr
structure JobP (K : Int) (I mp M T : Nat) : Prop where
  K0 : -9223372036854775808 ≤ K
  K1 : K ≤ 9223372036854775807
  e : K * I = mp
  le : mp ≤ M
  m32 : M ≤ 32
  i32 : I ≤ M
  T : Bi.tri (Bi.stg M) = T
  S : M = 0 ∨ ∃ S, 1 ≤ S ∧ S ≤ 5 ∧ M = 2 ^ S
variable {K : Int}
theorem JobP.t15 (h : JobP K I mp M T) : T ≤ 15 := by
  rw [← h.T]
  rcases h.S with e | ⟨S, h1, h5, e⟩
  · rw [e]; decide
  · rw [e, ← Bi.two_nat, Bi.stg_pow (by omega)]; exact Bi.tri_mono h5
theorem JobP.round (h : JobP K I mp M T) {r : Nat} (hr : r < T) : Bi.Found (Bi.stg M) r (stT r).1 (stT r).2 true := .inl ⟨rfl, stT_stp (by rw [h.T]; exact hr) (Bi.stg_le _)⟩
theorem JobP.half (h : JobP K I mp M T) {r : Nat} (hr : r < T) : (Net.firsts (2 ^ ((stT r).2 - 1)) M).length = M / 2 := by
  have ht := h.T
  rcases h.S with e | ⟨S, h1, h5, e⟩
  · rw [e] at ht
    have : Bi.tri (Bi.stg ((0 : Nat) : Int)) = 0 := by decide
    omega
  · rw [e, ← Bi.two_nat, Bi.stg_pow (by omega)] at ht
    rw [e]
    exact half_pairs h1 h5 (by omega)
theorem chn_rounds (h : JobP K I mp M T) (kd : Nat) (c : Nat) : ∀ n, n ≤ T → Chn (tkOf mp M) c ((List.range n).map (fun i => (⟨(kd : Int), ((1 + i : Nat) : Int), M / 2, c + i * (M / 2)⟩ : Gr))) ∧ (((List.range n).map (fun i => (⟨(kd : Int), ((1 + i : Nat) : Int), M / 2, c + i * (M / 2)⟩ : Gr))).flatMap (tkOf mp M)).length = n * (M / 2)
  | 0, _ => by simp [Chn]
  | n + 1, hn => by
    obtain ⟨h1, h2⟩ := chn_rounds h kd c n (by omega)
    have hl : (tkOf mp M ⟨(kd : Int), ((1 + n : Nat) : Int), M / 2, c + n * (M / 2)⟩).length = M / 2 := by
      unfold tkOf
      rw [if_neg (by simp only; omega)]
      simp only [roundT, List.length_map]
      rw [show (((1 + n : Nat) : Int) - 1).toNat = n by omega]
      exact h.half (by omega)
    rw [List.range_succ, List.map_append, List.map_cons, List.map_nil]
    refine ⟨chn_append h1 ⟨by simp only [h2], hl, trivial⟩, ?_⟩
    rw [List.flatMap_append, List.length_append, h2, Nat.add_mul]
    rw [List.flatMap_cons, List.flatMap_nil, List.append_nil, hl, Nat.one_mul]
theorem singles_length (kd : Nat) (sz c : Nat) : (tkOf mp M ⟨kd, 0, sz, c⟩).length = sz := by simp [tkOf]
theorem grs_chn (h : JobP K I mp M T) : Chn (tkOf mp M) 0 (grs I mp M T) ∧ ((grs I mp M T).flatMap (tkOf mp M)).length = cnK I mp M T 6 := by
  have e1 : grsK I mp M T 1 = [⟨1, 0, I, 0⟩] := by simp [grsK, nrK, grK, frK, szK, cnK]
  have e2 : grsK I mp M T 2 = [⟨2, 0, M - mp, I⟩] := by simp [grsK, nrK, grK, frK, szK, cnK]
  have e3 : grsK I mp M T 3 = (List.range T).map (fun i => ⟨(3 : Nat), ((1 + i : Nat) : Int), M / 2, (I + (M - mp)) + i * (M / 2)⟩) := by simp [grsK, nrK]; intro a _; simp [grK, frK, szK, cnK, nrK]
  have e4 : grsK I mp M T 4 = [⟨4, 0, M, I + (M - mp) + T * (M / 2)⟩] := by simp [grsK, nrK, grK, frK, szK, cnK]
  have e5 : grsK I mp M T 5 = (List.range T).map (fun i => ⟨(5 : Nat), ((1 + i : Nat) : Int), M / 2, (I + (M - mp) + T * (M / 2) + M) + i * (M / 2)⟩) := by simp [grsK, nrK]; intro a _; simp [grK, frK, szK, cnK, nrK]
  obtain ⟨c3, l3⟩ := chn_rounds h 3 (I + (M - mp)) T (Nat.le_refl _)
  obtain ⟨c5, l5⟩ := chn_rounds h 5 (I + (M - mp) + T * (M / 2) + M) T (Nat.le_refl _)
  have s1 := singles_length (mp := mp) (M := M) 1 I 0
  have s2 := singles_length (mp := mp) (M := M) 2 (M - mp) I
  have s4 := singles_length (mp := mp) (M := M) 4 M (I + (M - mp) + T * (M / 2))
  unfold grs
  rw [e1, e2, e3, e4, e5]
  have s1 : (tkOf mp M ⟨1, 0, I, 0⟩).length = I := s1
  have s2 : (tkOf mp M ⟨2, 0, M - mp, I⟩).length = M - mp := s2
  have s4 : (tkOf mp M ⟨4, 0, M, I + (M - mp) + T * (M / 2)⟩).length = M := s4
  refine ⟨chn_append (chn_append (chn_append (chn_append ⟨rfl, s1, trivial⟩ ⟨?_, s2, trivial⟩) ?_) ⟨?_, s4, trivial⟩) ?_, ?_⟩
  · simp [s1]
  · simp only [List.flatMap_append, List.flatMap_cons, List.flatMap_nil, List.append_nil, List.length_append, s1, s2, Nat.zero_add]
    exact c3
  · simp only [List.flatMap_append, List.flatMap_cons, List.flatMap_nil, List.append_nil, List.length_append, s1, s2, l3, Nat.zero_add]
  · simp only [List.flatMap_append, List.flatMap_cons, List.flatMap_nil, List.append_nil, List.length_append, s1, s2, l3, s4, Nat.zero_add]
    exact c5
  · simp only [List.flatMap_append, List.flatMap_cons, List.flatMap_nil, List.append_nil, List.length_append, s1, s2, l3, s4, l5]
    simp [cnK, nrK, szK]
theorem grs_tasks : (grs I mp M T).flatMap (tkOf mp M) = tasksT I mp M T := by
  unfold grs tasksT
  simp only [List.flatMap_append]
  have h1 : (grsK I mp M T 1).flatMap (tkOf mp M) = (List.range I).map (oneT 1) := by simp [grsK, nrK, grK, frK, szK, tkOf]
  have h2 : (grsK I mp M T 2).flatMap (tkOf mp M) = (List.range (M - mp)).map (fun i => oneT 2 (mp + i)) := by simp [grsK, nrK, grK, frK, szK, tkOf]
  have h4 : (grsK I mp M T 4).flatMap (tkOf mp M) = (List.range M).map (oneT 4) := by simp [grsK, nrK, grK, frK, szK, tkOf]
  have hs : ∀ k, (k = 3 ∨ k = 5) → (grsK I mp M T k).flatMap (tkOf mp M) = sortsT k M T := fun k hk => by
    unfold sortsT grsK
    rw [List.flatMap_map]
    rw [show nrK T k = T by simp [nrK, hk]]
    congr 1
    funext i
    unfold tkOf grK
    rw [if_neg (by simp [frK, hk]; omega)]
    simp only
    congr 1
    simp [frK, hk]
    omega
  rw [h1, h2, h4, hs 3 (.inl rfl), hs 5 (.inr rfl)]
  rfl
end
end Go.Proofs.YtipmfficjomcoaaDoor.Sh
namespace Go.Proofs.YtipmfficjomcoaaDoor.Bi
open Go.RowKit Go.Shelf Go.Proofs.YtipmfficjomcoaaDoor Mem Held Go.Proofs.YtipmfficjomcoaaDoor.Range
attribute [local go_sem] Oper.semAt_some
attribute [local irreducible] wpList wpListIn Calls
end Go.Proofs.YtipmfficjomcoaaDoor.Bi
