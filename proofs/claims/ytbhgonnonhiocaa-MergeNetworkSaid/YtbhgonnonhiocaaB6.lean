/-
  A region that draws its order and in the end stores into what it has loaded: what is loaded ahead of a store that waits for it may be taken first, as long as a condition holds till that store.
  dominohelp.Seq2 of package bitonic's iterator: the first places of a round's pairs, and the second ones, as two lists of the call's own.
  dominohelp.Seq2 of package bitonic's iterator, by its contract.
  dominohelp.Plain of lists of numbers, and the document's own answers for package bitonic, by their contracts.
  The document's own answers for package bitonic: which stage and step a round is, which pairs it has, and which of them are up, by their contracts.
  Package merge's iterator over every other place, by its contract: it hands out the places f, f + 2, .., till there is none or it is told to stop.
  The functions Same and Plain of package dominohelp on records, by their contracts.
  The functions Own and Kept of package dominohelp on records, by their contracts.
-/
import Derived.Test.YtbhgonnonhiocaaB2
import Derived.Test.YtbhgonnonhiocaaB5
import Derived.Test.YtbhgonnonhiocaaB1
import Derived.Test.YtbhgonnonhiocaaB4
import Derived.OwnWalk
import Derived.Lib.BufferOwn
import Derived.Maps.AppendAt
import Derived.Great.BuildSlice
set_option linter.unusedVariables false
namespace Go.Proofs.Ytbhgonnonhiocaa.Held
open Go.RowKit
section
variable {P : Program} {ops : Array Oper} {Q : Exit → Act → World → Prop} {md : Region.Mode} {T : World → Prop} {s : Nat}
theorem not_yet {listed : Array Bool} {j : Nat} {oj : Oper} (hj : j ∈ Region.ready md ops listed) (ho : ops[j]? = some oj) {e : Edge} (he : e ∈ oj.after) (hb : Region.binds md e = true) : listed.getD e.on true ≠ false := fun hx => by
  obtain ⟨_, o, h1, h2⟩ := mem_ready.1 hj
  obtain rfl : o = oj := by rw [h1] at ho; exact Option.some.inj ho
  have := h2 e he hb
  by_cases c : e.on < listed.size
  · simp [c] at hx this; exact absurd (this.symm.trans hx) (by simp)
  · simp [Array.getElem?_eq_none (Nat.le_of_not_lt c)] at this
structure Early (md : Region.Mode) (ops : Array Oper) (B : List Nat) (i : Nat) (oi : Oper) (listed : Array Bool) : Prop where
  ready : i ∈ Region.ready md ops listed
  free : ∀ j oj, ops[j]? = some oj → j ≠ i → listed.getD j true = false → (∀ e ∈ oj.after, Region.binds md e = true → e.on ≠ i) → oi.apart ops oj = true
  late : ∀ b ∈ B, listed.getD b true = false
def Waits (md : Region.Mode) (ops : Array Oper) (B : List Nat) (i : Nat) : Prop := i ∉ B ∧ ∀ b ∈ B, ∀ o, ops[b]? = some o → ∃ e ∈ o.after, Region.binds md e = true ∧ (e.on = i ∨ e.on ∈ B)
section
variable {B : List Nat} {i : Nat} {oi : Oper} {listed : Array Bool}
theorem Early.un (h : Early md ops B i oi listed) : listed.getD i true = false := (mem_ready.1 h.ready).1
theorem Early.waits (h : Early md ops B i oi listed) {j : Nat} {oj : Oper} (hj : j ∈ Region.ready md ops listed) (ho : ops[j]? = some oj) : ∀ e ∈ oj.after, Region.binds md e = true → e.on ≠ i :=
  fun e he hb heq => not_yet hj ho he hb (by rw [heq]; exact h.un)
theorem Early.out (h : Early md ops B i oi listed) (hw : Waits md ops B i) {j : Nat} (hj : j ∈ Region.ready md ops listed) : j ∉ B := fun hjB => by
  obtain ⟨_, oj, ho, _⟩ := mem_ready.1 hj
  obtain ⟨e, he, hb, hor⟩ := hw.2 j hjB oj ho
  rcases hor with h1 | h1
  · exact h.waits hj ho e he hb h1
  · exact not_yet hj ho he hb (h.late _ h1)
end
end
end Go.Proofs.Ytbhgonnonhiocaa.Held
namespace Go.Proofs.Ytbhgonnonhiocaa.Bi
open Go.RowKit Go.Shelf Go.Proofs.Ytbhgonnonhiocaa Mem Held Go.Proofs.Ytbhgonnonhiocaa.Range
attribute [local go_sem] Oper.semAt_some
attribute [local irreducible] wpList wpListIn Calls
theorem own_obj {w : World} {base : Nat} {t : TypeId} {k : IntKind} {v : Value} {zs : List Int} (h : Mem.Own w base t k v zs) {b : Nat} (e : v.ownBlock = some b) : ∃ cs fz, w.heap[b]? = some (.cells cs t fz) := by
  rcases h.2.2 with ⟨rfl, _⟩ | ⟨g, cap, cur, rfl, hb, hg, _⟩
  · simp [Value.ownBlock] at e
  · simp [Value.ownBlock] at e
    subst e
    exact ⟨_, _, hg⟩
theorem own_ne {w : World} {base : Nat} {t : TypeId} {k : IntKind} {v : Value} {zs : List Int} (h : Mem.Own w base t k v zs) {row : Option Nat} (hr : ∀ r, row = some r → ∃ o : Obj, w.heap[r]? = some o ∧ o.isCells = false) : v.ownBlock = none ∨ v.ownBlock ≠ row := by
  cases hq : v.ownBlock with
  | none => exact .inl rfl
  | some b =>
    refine .inr fun e => ?_
    obtain ⟨o, ho, hc⟩ := hr b e.symm
    obtain ⟨cs, fz, h2⟩ := own_obj h hq
    rw [h2] at ho
    cases ho
    cases hc
structure Two (w V : World) (B gx gy : Nat) (ux uy vx vy : Value) (xs ys : List Int) (W : World) : Prop where
  lx : gx < B
  ly : gy < B
  ne : gx ≠ gy
  hx : w.heap.size ≤ gx
  hy : w.heap.size ≤ gy
  cx : W.heap[gx]? = some (.cells #[ux] 38 (0, 0))
  cy : W.heap[gy]? = some (.cells #[uy] 38 (0, 0))
  ox : Mem.Own W B 3 .i64 vx xs
  oy : Mem.Own W B 3 .i64 vy ys
  ap : ∀ b, vx.ownBlock = some b → vy.ownBlock ≠ some b
  low : ∀ b, b < B → b ≠ gx → b ≠ gy → W.heap[b]? = V.heap[b]?
  bel : Below w.heap.size w W
  sz : B ≤ W.heap.size
section
variable {w V W W' : World} {B gx gy : Nat} {ux uy vx vy : Value} {xs ys : List Int}
theorem Two.keep (h : Two w V B gx gy ux uy vx vy xs ys W) {row : Option Nat} (hg : W.grownBy W' row) (hr : ∀ r, row = some r → B ≤ r ∧ ∃ o : Obj, W.heap[r]? = some o ∧ o.isCells = false) : Two w V B gx gy ux uy vx vy xs ys W' := by
  have hne : ∀ i, i < B → some i ≠ row := fun i hi e => by have := (hr i e.symm).1; omega
  have hr2 := fun r e => (hr r e).2
  refine ⟨h.lx, h.ly, h.ne, h.hx, h.hy, Held.keep_cells h.cx hg (hne _ h.lx), Held.keep_cells h.cy hg (hne _ h.ly), h.ox.kept hg (own_ne h.ox hr2), h.oy.kept hg (own_ne h.oy hr2), h.ap, fun b hb h1 h2 => ?_, h.bel.grown hg (by have := h.sz; have := h.hx; have := h.lx; omega) (fun r e => by have := (hr r e).1; have := h.hx; have := h.lx; omega), Nat.le_trans h.sz hg.size⟩
  exact (hg.block b (Nat.lt_of_lt_of_le hb h.sz) (hne b hb)).trans (h.low b hb h1 h2)
theorem Two.after (h : Two w V B gx gy ux uy vx vy xs ys W) (hb : Below W.heap.size W W') : Two w V B gx gy ux uy vx vy xs ys W' := h.keep (grown_of_below hb none) (fun r e => by cases e)
end
section
variable {P : Program} {ops : Array Oper} {Q : Exit → Act → World → Prop}
end
theorem info_int : (Try.prog.info? 3).map (fun i => (i.zero, i.size, i.bytes)) = some (some (.int .i64 0), 1, 8) := by kernel_rfl
theorem wf_i64 {z : Int} (h : -9223372036854775808 ≤ z) (h' : z ≤ 9223372036854775807) : (Lit.int .i64 z).wf = true := by simp [Lit.wf, IntKind.min, IntKind.max, IntKind.signed, IntKind.bits]; omega
end Go.Proofs.Ytbhgonnonhiocaa.Bi
namespace Go.Proofs.Ytbhgonnonhiocaa.Bi
open Go.RowKit Go.Shelf Go.Proofs.Ytbhgonnonhiocaa Mem Held Go.Proofs.Ytbhgonnonhiocaa.Range
attribute [local go_sem] Oper.semAt_some
attribute [local irreducible] wpList wpListIn Calls
def xsOf (l : List Nat) : List Int := l.map fun (a : Nat) => (a : Int)
def ysOf (t : Nat) (l : List Nat) : List Int := l.map fun (a : Nat) => (a : Int) + 2 ^ (t - 1)
def I2 (w V : World) (B gx gy t : Nat) (pre : List Nat) (W : World) : Prop := ∃ vx vy, Two w V B gx gy vx vy vx vy (xsOf pre) (ysOf t pre) W
theorem I2.from (w V : World) (B gx gy t : Nat) : OwnFrom B (I2 w V B gx gy t) := fun pre W W' row h hg hr => by
  obtain ⟨vx, vy, h⟩ := h
  exact ⟨vx, vy, h.keep hg hr⟩
end Go.Proofs.Ytbhgonnonhiocaa.Bi
namespace Go.Proofs.Ytbhgonnonhiocaa.Bi
open Go.RowKit Go.Shelf Go.Proofs.Ytbhgonnonhiocaa Mem Held Help Go.Proofs.Ytbhgonnonhiocaa.Range
attribute [local go_sem] Oper.semAt_some
attribute [local irreducible] wpList wpListIn Calls
set_option maxRecDepth 100000 in
set_option maxHeartbeats 2000000 in
theorem rpadded_any (n : Int) (w : World) (h0 : -9223372036854775808 ≤ n) (h1 : n ≤ 9223372036854775807) :
    Calls Try.prog 39 #[.int .i64 n] w fun e w' => e = .returned (.int .i64 (padV n)) ∧ w = w' := by
  obtain ⟨m, hm⟩ : ∃ m, min n 65536 = m := ⟨_, rfl⟩
  have hmin : (if (65536 : Int) < n then 65536 else n) = m := by split <;> omega
  have hm2 : m ≤ 65536 := by omega
  have HM := Lib.hid hm
  clear hm
  go_enter Try.func39, Try.ntmps39
  go_wp2_with (refine Held.wpList_run (w := w) rfl (v := .int .i64 m) (Held.y_min (S := fun _ => True) rfl rfl rfl hmin _ trivial) ?_)
  clear hmin
  go_loopw [3] (fun v wr => ∃ (k : Nat) (p : Int), v = .int .i64 p ∧ Hid (p = 2 ^ k) ∧ k ≤ 16 ∧ Hid (padF (16 - k) k n = padS n) ∧ w = wr) (fun v _ => (70000 - intOf v).toNat)
  case atStart => exact ⟨0, 1, rfl, Lib.hid (by simp), by omega, Lib.hid rfl, rfl⟩
  case round =>
    obtain ⟨k, p, rfl, hp, hk, hf, rfl⟩ := hrel
    have p1 : 1 ≤ p := by rw [hp.out]; exact two_pos k
    have p2 : p ≤ 65536 := by rw [hp.out]; exact two_16 hk
    by_cases c1 : p < m
    · have k16 : k < 16 := by
        rcases Nat.lt_or_ge k 16 with c | c
        · exact c
        · have : k = 16 := by omega
          have := hp.out
          subst k
          omega
      have HN := Lib.hid (show padF (16 - (k + 1)) (k + 1) n = padS n by
        have := HM.out
        rw [← hf.out, show 16 - k = (16 - (k + 1)) + 1 by omega]
        rw [hp.out] at c1
        conv => rhs; rw [padF, if_pos (show (2 : Int) ^ k < n by omega)])
      have HP := Lib.hid (show 2 * p = 2 ^ (k + 1) by rw [hp.out, two_succ])
      go_wp2_with fail
      go_roundw
      case rel => exact ⟨k + 1, 2 * p, by go_num, HP, by omega, HN, trivial⟩
      case measure => simp [intOf]; omega
    · have HN := Lib.hid (show p = padV n by
        have h1 := hf.out
        have h2 := HM.out
        unfold padV
        rw [← h1, hp.out]
        rw [hp.out] at c1
        cases hq : 16 - k with
        | zero => rfl
        | succ q =>
          have h3 := two_mono (show k ≤ 15 by omega)
          rw [show (2 : Int) ^ 15 = 32768 by decide] at h3
          rw [padF, if_neg (show ¬ (2 : Int) ^ k < n by omega)])
      go_wp2_with fail
      go_ret
      exact ⟨by rw [HN.out]; rfl, rfl⟩
def powV (n : Int) : Int := if padV n = n then (stg n : Int) else -1
set_option maxRecDepth 100000 in
set_option maxHeartbeats 2000000 in
theorem power_any (n : Int) (w : World) (h0 : -9223372036854775808 ≤ n) (h1 : n ≤ 9223372036854775807) :
    Calls Try.prog 31 #[.int .i64 n] w fun e w' => e = .returned (.int .i64 (powV n)) ∧ w = w' := by
  have H := rpadded_any n w h0 h1
  have hq1 : 1 ≤ padV n := two_pos _
  have hq2 : padV n ≤ 65536 := two_16 (padS_le n)
  by_cases c1 : n < 1
  · have HV := Lib.hid (show powV n = -1 by unfold powV; rw [if_neg (by omega)])
    go_enter Try.func31, Try.ntmps31
    go_wp2_with fail
    go_ret
    exact ⟨by rw [HV.out]; rfl, rfl⟩
  by_cases c2 : 65536 < n
  · have HV := Lib.hid (show powV n = -1 by unfold powV; rw [if_neg (by omega)])
    go_enter Try.func31, Try.ntmps31
    go_wp2_with fail
    go_ret
    exact ⟨by rw [HV.out]; rfl, rfl⟩
  by_cases c3 : padV n = n
  · have HV := Lib.hid (show powV n = (stg n : Int) by unfold powV; rw [if_pos c3])
    have h16 := stg_le n
    have hn : n = 2 ^ stg n := by
      rcases stg_is n with e | e
      · exact e
      · exact absurd c3 e.2
    have HS := Lib.hid (show n = 2 ^ stg n from hn)
    rw [c3] at H
    generalize stg n = S at *
    clear hn hq1 hq2 c3
    go_enter Try.func31, Try.ntmps31
    go_wp2_with fail
    refine H.mono ?_
    rintro e w1 ⟨rfl, rfl⟩
    go_wp2_with fail
    go_loopw [3] (fun v wr => ∃ k : Nat, v = .int .i64 (k : Int) ∧ k ≤ S ∧ w = wr) (fun v _ => S - (intOf v).toNat)
    case atStart => exact ⟨0, rfl, by omega, rfl⟩
    case round =>
      obtain ⟨k, rfl, hk, rfl⟩ := hrel
      have hc : IntKind.u64.wrap (k : Int) = (k : Int) := by rw [IntKind.wrap_u64]; omega
      have p1 := two_pos k
      have p2 := two_16 (show k ≤ 16 by omega)
      have hr := fun W : World => Rc.run_shl_ (P := Try.prog) 3 .i64 .u64 (a := 1) k (by show k ≤ 64; omega) W
      rw [show (1 : Int) * 2 ^ k = 2 ^ k by omega, show IntKind.i64.wrap (2 ^ k) = 2 ^ k by rw [IntKind.wrap_i64]; omega] at hr
      by_cases hlt : k < S
      · have hd : (2 : Int) ^ k < n := by
          have := two_mono (show k + 1 ≤ S by omega)
          rw [two_succ] at this
          have := HS.out
          omega
        obtain ⟨p, hp⟩ : ∃ p : Int, 2 ^ k = p := ⟨_, rfl⟩
        rw [hp] at hd hr p1 p2
        clear hp
        go_wp2_with (first
          | (refine Held.wpList_run (w := w) rfl (v := .int .u64 (k : Int)) (Held.y_convert (S := fun _ => True) rfl rfl (by kernel_rfl) Try.underlying35 hc _ trivial) ?_)
          | (refine Held.wpList_run (w := w) rfl (v := .int .i64 p) (Held.y_bin (S := fun _ => True) rfl rfl rfl (fun W => by simp [eqGuard]) hr _ trivial) ?_))
        go_roundw
        case rel => exact ⟨k + 1, by go_num, by omega, trivial⟩
        case measure => simp [intOf]; omega
      · obtain rfl : k = S := by omega
        have hd : ¬ (2 : Int) ^ k < n := by have := HS.out; omega
        obtain ⟨p, hp⟩ : ∃ p : Int, 2 ^ k = p := ⟨_, rfl⟩
        rw [hp] at hd hr p1 p2
        clear hp
        go_wp2_with (first
          | (refine Held.wpList_run (w := w) rfl (v := .int .u64 (k : Int)) (Held.y_convert (S := fun _ => True) rfl rfl (by kernel_rfl) Try.underlying35 hc _ trivial) ?_)
          | (refine Held.wpList_run (w := w) rfl (v := .int .i64 p) (Held.y_bin (S := fun _ => True) rfl rfl rfl (fun W => by simp [eqGuard]) hr _ trivial) ?_))
        go_ret
        exact ⟨by rw [HV.out]; rfl, rfl⟩
  · have HV := Lib.hid (show powV n = -1 by unfold powV; rw [if_neg c3])
    generalize padV n = q at *
    go_enter Try.func31, Try.ntmps31
    go_wp2_with fail
    refine H.mono ?_
    rintro e w1 ⟨rfl, rfl⟩
    go_wp2_with fail
    go_ret
    exact ⟨by rw [HV.out]; rfl, rfl⟩
theorem rrounds_any (n : Int) (w : World) (h0 : -9223372036854775808 ≤ n) (h1 : n ≤ 9223372036854775807) :
    Calls Try.prog 18 #[.int .i64 n] w fun e w' => e = .returned (.int .i64 (tri (stg n) : Int)) ∧ w = w' := by
  have H := power_any n w h0 h1
  by_cases c3 : padV n = n
  · have h16 := stg_le n
    have htri : tri (stg n) = stg n * (stg n + 1) / 2 := rfl
    rw [htri]
    rw [show powV n = (stg n : Int) by unfold powV; rw [if_pos c3]] at H
    generalize stg n = q at *
    clear htri h0 h1
    have b : q * (q + 1) ≤ 16 * 17 := Nat.mul_le_mul h16 (by omega)
    obtain ⟨m, hm⟩ : ∃ m, q * (q + 1) = m := ⟨_, rfl⟩
    have hmul : IntKind.i64.wrap ((q : Int) * ((q : Int) + 1)) = (m : Int) := by
      rw [show (q : Int) * ((q : Int) + 1) = (m : Int) by rw [← hm]; simp, IntKind.wrap_i64]; omega
    rw [hm] at b ⊢
    clear hm c3
    have hq0 : ¬ (q : Int) < 0 := by omega
    have hq := Held.run_quo (P := Try.prog) 3 .i64 (a := (m : Int)) (b := 2) (r := ((m / 2 : Nat) : Int)) (by omega) (by rw [Int.tdiv_eq_ediv_of_nonneg (by omega), IntKind.wrap_i64]; omega)
    go_enter Try.func18, Try.ntmps18
    go_wp2_with fail
    refine H.mono ?_
    rintro e w1 ⟨rfl, rfl⟩
    go_wp2_with (first
      | (refine Held.wpList_run (w := w) rfl (v := .int .i64 (m : Int)) (Held.y_int (S := fun _ => True) rfl rfl rfl (Held.run_mul 3 .i64 hmul) _ trivial) ?_)
      | (refine Held.wpList_run (w := w) rfl (v := .int .i64 ((m / 2 : Nat) : Int)) (Held.y_int (S := fun _ => True) rfl rfl rfl hq _ trivial) ?_))
    go_ret
    exact ⟨rfl, rfl⟩
  · have hs : stg n = 0 := by
      rcases stg_is n with e | e
      · exact absurd (by rw [e]; exact padV_pow (stg_le n)) c3
      · exact e.1
    rw [show powV n = -1 by unfold powV; rw [if_neg c3]] at H
    rw [hs]
    go_enter Try.func18, Try.ntmps18
    go_wp2_with fail
    refine H.mono ?_
    rintro e w1 ⟨rfl, rfl⟩
    go_wp2_with fail
    go_ret
    exact ⟨rfl, rfl⟩
end Go.Proofs.Ytbhgonnonhiocaa.Bi
namespace Go.Proofs.Ytbhgonnonhiocaa.Bi
open Go.RowKit Go.Shelf Go.Proofs.Ytbhgonnonhiocaa Mem Held Help Go.Proofs.Ytbhgonnonhiocaa.Range
attribute [local go_sem] Oper.semAt_some
attribute [local irreducible] wpList wpListIn Calls
set_option maxRecDepth 100000 in
set_option maxHeartbeats 4000000 in
theorem rof_any (n r : Int) (s t : Nat) (ok : Bool) (w : World) (h0 : -9223372036854775808 ≤ n) (h1 : n ≤ 9223372036854775807) (hF : Found (stg n) r s t ok) :
    Calls Try.prog 32 #[.int .i64 n, .int .i64 r] w fun e w' => e = .returned (.tuple #[.int .i64 (s : Int), .int .i64 (t : Int)]) ∧ w = w' := by
  have H := rrounds_any n w h0 h1
  have h16 := stg_le n
  have htl := tri_le h16
  generalize stg n = S at *
  rcases hF with ⟨hok, ha⟩ | ⟨hok, rfl, rfl, hno⟩
  · obtain ⟨hr0, hr1⟩ := ha.lt
    obtain ⟨t1, ts, sS, he⟩ := ha
    obtain ⟨q0, rfl⟩ : ∃ q, s = q + 1 := ⟨s - 1, by omega⟩
    simp only [Nat.add_sub_cancel] at he
    have HE := Lib.hid he
    have HM := Lib.hid (fun a b (h : a ≤ b) => tri_mono h)
    have HTS := Lib.hid tri_succ
    have hnr : ¬ (tri S : Int) ≤ r := by omega
    generalize tri S = T at *
    clear he
    go_enter Try.func32, Try.ntmps32
    go_wp2_with fail
    refine H.mono ?_
    rintro e w1 ⟨rfl, rfl⟩
    go_wp2_with fail
    go_loopw [1, 6] (fun rv sv wr => ∃ q u : Nat, rv = .int .i64 (u : Int) ∧ Hid (r = ((tri q + u : Nat) : Int)) ∧ sv = .int .i64 ((q : Int) + 1) ∧ q ≤ q0 ∧ u ≤ 200 ∧ w = wr) (fun rv _ _ => (intOf rv).toNat)
    case atStart => exact ⟨0, r.toNat, by rw [show ((r.toNat : Nat) : Int) = r by omega], Lib.hid (by rw [tri_zero]; omega), rfl, by omega, by omega, rfl⟩
    case round =>
      obtain ⟨q, u, rfl, hu, rfl, hq, hu2, rfl⟩ := hrel
      by_cases hge : q + 1 ≤ u
      · have hge' : (q : Int) + 1 ≤ (u : Int) := by omega
        have hq1 : q + 1 ≤ q0 := by
          rcases Nat.lt_or_ge q q0 with c | c
          · omega
          · have e1 : q = q0 := by omega
            have e2 := HE.out
            have e3 := hu.out
            rw [e1] at e3 hge
            omega
        go_wp2_with fail
        go_roundw
        case rel => exact ⟨q + 1, u - (q + 1), by go_num, Lib.hid (by rw [hu.out, HTS.out]; omega), by go_num, hq1, by omega, trivial⟩
        case measure => simp [intOf]; omega
      · have hge' : ¬ (q : Int) + 1 ≤ (u : Int) := by omega
        have hqq : q = q0 := by
          rcases Nat.lt_or_ge q q0 with c | c
          · have e1 := HM.out (q + 1) q0 (by omega)
            rw [HTS.out] at e1
            have e2 := HE.out
            have e3 := hu.out
            omega
          · omega
        have htt : (q : Int) + 1 - (u : Int) = (t : Int) := by
          have e2 := HE.out
          have e3 := hu.out
          rw [hqq] at e3 ⊢
          omega
        subst hqq
        have HT := Lib.hid htt
        clear htt
        go_wp2_with fail
        go_ret2
        refine ⟨?_, rfl⟩
        simp [HT.out]
  · by_cases hr : r < 0
    · go_enter Try.func32, Try.ntmps32
      go_wp2_with fail
      go_ret2
      exact ⟨rfl, rfl⟩
    · have hnr : (tri S : Int) ≤ r := by omega
      generalize tri S = T at *
      clear hno
      go_enter Try.func32, Try.ntmps32
      go_wp2_with fail
      refine H.mono ?_
      rintro e w1 ⟨rfl, rfl⟩
      go_wp2_with fail
      go_ret2
      exact ⟨rfl, rfl⟩
section
variable {P : Program} {S : World → Prop} {ρ : Operand → Value} {o : Oper} {t ty : TypeId} {x y : Operand} {k k' : IntKind} {r : Int}
theorem y_shl (a n : Int) (ho : o.op = .binOp .shl t x y ty) (hx : ρ x = .int k a) (hy : ρ y = .int k' n) (hr : ∀ w : World, (binOp .shl t (.int k a) (.int k' n)).run P w = .ok (.int k r) w) : ∀ w, S w → (execOp ρ o).run P w = .ok (.value (.int k r)) w :=
  Held.y_bin ho hx hy (fun w => by simp [eqGuard]) hr
theorem y_quo (a b : Int) (ho : o.op = .binOp .quo t x y ty) (hx : ρ x = .int k a) (hy : ρ y = .int k b) (hr : ∀ w : World, (binOp .quo t (.int k a) (.int k b)).run P w = .ok (.int k r) w) : ∀ w, S w → (execOp ρ o).run P w = .ok (.value (.int k r)) w := Held.y_int ho hx hy hr
theorem y_rem (a b : Int) (ho : o.op = .binOp .rem t x y ty) (hx : ρ x = .int k a) (hy : ρ y = .int k b) (hr : ∀ w : World, (binOp .rem t (.int k a) (.int k b)).run P w = .ok (.int k r) w) : ∀ w, S w → (execOp ρ o).run P w = .ok (.value (.int k r)) w := Held.y_int ho hx hy hr
theorem y_sub (a b : Int) (ho : o.op = .binOp .sub t x y ty) (hx : ρ x = .int k a) (hy : ρ y = .int k b) (hr : k.wrap (a - b) = r) : ∀ w, S w → (execOp ρ o).run P w = .ok (.value (.int k r)) w := Held.y_int ho hx hy (Held.run_sub t k hr)
end
theorem quo_of {a d : Int} (ha : 0 ≤ a) (hd : 1 ≤ d) (ha' : a < 9223372036854775808) : IntKind.i64.wrap (a.tdiv d) = a / d ∧ 0 ≤ a / d := by
  have h0 : 0 ≤ a / d := Int.ediv_nonneg ha (by omega)
  have h1 := Int.ediv_le_self d ha
  rw [Int.tdiv_eq_ediv_of_nonneg ha, IntKind.wrap_i64]
  omega
theorem rem_of {a : Int} (ha : 0 ≤ a) : a.tmod 2 = a % 2 := Int.tmod_eq_emod_of_nonneg ha
set_option maxRecDepth 100000 in
set_option maxHeartbeats 4000000 in
theorem rup_any (n r a : Int) (s t : Nat) (ok : Bool) (w : World) (h0 : -9223372036854775808 ≤ n) (h1 : n ≤ 9223372036854775807) (ha0 : -9223372036854775808 ≤ a) (ha1 : a ≤ 9223372036854775807) (hF : Found (stg n) r s t ok) :
    Calls Try.prog 20 #[.int .i64 n, .int .i64 r, .int .i64 a] w fun e w' => e = .returned (.bool (upV n s t ok a)) ∧ w = w' := by
  have H := rof_any n r s t ok w h0 h1 hF
  have ht := hF.t1 (stg_le n)
  have hz : ok = false → s = 0 := fun h => by
    rcases hF with ⟨h2, _⟩ | ⟨_, h2, _⟩
    · rw [h] at h2; cases h2
    · exact h2
  clear hF
  cases ok with
  | false =>
    have hv : upV n s t false a = false := by simp [upV]
    rw [hv]
    obtain rfl := hz rfl
    go_enter Try.func20, Try.ntmps20
    go_wp2_with fail
    refine H.mono ?_
    rintro e w1 ⟨rfl, rfl⟩
    go_wp2_with fail
    go_ret
    exact ⟨rfl, rfl⟩
  | true =>
    obtain ⟨t1, t2, t3⟩ := ht rfl
    clear hz ht
    have hs0 : ¬ (s : Int) = 0 := by omega
    by_cases c0 : a < 0
    · have hv : upV n s t true a = false := by simp [upV]; intro h; omega
      rw [hv]
      go_enter Try.func20, Try.ntmps20
      go_wp2_with fail
      refine H.mono ?_
      rintro e w1 ⟨rfl, rfl⟩
      go_wp2_with fail
      go_ret
      exact ⟨rfl, rfl⟩
    by_cases c1 : n ≤ a
    · have hv : upV n s t true a = false := by simp [upV]; intro h h'; omega
      rw [hv]
      go_enter Try.func20, Try.ntmps20
      go_wp2_with fail
      refine H.mono ?_
      rintro e w1 ⟨rfl, rfl⟩
      go_wp2_with fail
      go_ret
      exact ⟨rfl, rfl⟩
    have hv : upV n s t true a = (decide (a / 2 ^ (t - 1) % 2 = 0) && decide (a / 2 ^ s % 2 = 0)) := by
      have e1 : decide (0 ≤ a) = true := by simp; omega
      have e2 : decide (a < n) = true := by simp; omega
      unfold upV
      rw [e1, e2]
      simp
    have sh := fun (k : Nat) (hk : k ≤ 16) (W : World) => show (binOp .shl 3 (.int .i64 1) (.int .u64 (k : Int))).run Try.prog W = .ok (.int .i64 (2 ^ k)) W by
      have h := Rc.run_shl_ (P := Try.prog) 3 .i64 .u64 (a := 1) k (by show k ≤ 64; omega) W
      have p1 := two_pos k
      have p2 := two_16 hk
      rw [show (1 : Int) * 2 ^ k = 2 ^ k by omega, show IntKind.i64.wrap (2 ^ k) = 2 ^ k by rw [IntKind.wrap_i64]; omega] at h
      exact h
    have s1 := sh (t - 1) (by omega)
    have s2 := sh s t3
    have p1 := two_pos (t - 1)
    have p2 := two_pos s
    have hsub : IntKind.i64.wrap ((t : Int) - 1) = ((t - 1 : Nat) : Int) := by rw [IntKind.wrap_i64]; omega
    have hc1 : IntKind.u64.wrap ((t - 1 : Nat) : Int) = ((t - 1 : Nat) : Int) := by rw [IntKind.wrap_u64]; omega
    have hc2 : IntKind.u64.wrap (s : Int) = (s : Int) := by rw [IntKind.wrap_u64]; omega
    obtain ⟨qa, qb⟩ := quo_of (show 0 ≤ a by omega) p1 (by omega)
    obtain ⟨qc, qd⟩ := quo_of (show 0 ≤ a by omega) p2 (by omega)
    obtain ⟨d1, hd1⟩ : ∃ d : Int, 2 ^ (t - 1) = d := ⟨_, rfl⟩
    obtain ⟨d2, hd2⟩ : ∃ d : Int, 2 ^ s = d := ⟨_, rfl⟩
    rw [hd1] at s1 p1 qa qb hv
    rw [hd2] at s2 p2 qc qd hv
    have ra := rem_of qb
    have rb := rem_of qd
    generalize a / d1 = q1 at *
    generalize a / d2 = q2 at *
    generalize hr1 : q1 % 2 = r1 at *
    generalize hr2 : q2 % 2 = r2 at *
    have hq1 := fun W => Held.run_quo (P := Try.prog) 3 .i64 (a := a) (b := d1) (r := q1) (by omega) qa W
    have hq2 := fun W => Held.run_quo (P := Try.prog) 3 .i64 (a := a) (b := d2) (r := q2) (by omega) qc W
    have hm1 := fun W => Held.run_rem (P := Try.prog) 3 .i64 (a := q1) (b := 2) (r := r1) (by omega) ra W
    have hm2 := fun W => Held.run_rem (P := Try.prog) 3 .i64 (a := q2) (b := 2) (r := r2) (by omega) rb W
    have hb0 : ((s : Int) == 0) = false := by simp; omega
    have hb1 : decide (a < 0) = false := by simp; omega
    have hb2 : decide (n ≤ a) = false := by simp; omega
    rw [hv]
    clear hr1 hr2 qa qb qc qd ra rb hd1 hd2 hv sh
    by_cases hz : r1 = 0
    · have hzd : decide (r1 = 0) = true := by simp [hz]
      have hne : (r1 != 0) = false := by simp [hz]
      rw [hzd, Bool.true_and]
      have HZ := Lib.hid hz
      clear hz hzd
      go_enter Try.func20, Try.ntmps20
      go_wp2_with fail
      refine H.mono ?_
      rintro e w1 ⟨rfl, rfl⟩
      go_wp2_with (first
        | (refine Held.wpList_run (w := w) rfl (v := .int .i64 ((t - 1 : Nat) : Int)) (y_sub (S := fun _ => True) (t : Int) 1 rfl rfl rfl hsub _ trivial) ?_; simp only [Act.put, Z1, Z2, Z3])
        | (refine Held.wpList_run (w := w) rfl (v := .int .u64 ((t - 1 : Nat) : Int)) (Held.y_convert (S := fun _ => True) rfl rfl (by kernel_rfl) Try.underlying35 hc1 _ trivial) ?_; simp only [Act.put, Z1, Z2, Z3])
        | (refine Held.wpList_run (w := w) rfl (v := .int .u64 (s : Int)) (Held.y_convert (S := fun _ => True) rfl rfl (by kernel_rfl) Try.underlying35 hc2 _ trivial) ?_; simp only [Act.put, Z1, Z2, Z3])
        | (refine Held.wpList_run (w := w) rfl (v := .int .i64 d1) (y_shl (S := fun _ => True) 1 ((t - 1 : Nat) : Int) rfl rfl rfl s1 _ trivial) ?_; simp only [Act.put, Z1, Z2, Z3])
        | (refine Held.wpList_run (w := w) rfl (v := .int .i64 d2) (y_shl (S := fun _ => True) 1 (s : Int) rfl rfl rfl s2 _ trivial) ?_; simp only [Act.put, Z1, Z2, Z3])
        | (refine Held.wpList_run (w := w) rfl (v := .int .i64 q1) (y_quo (S := fun _ => True) a d1 rfl rfl rfl hq1 _ trivial) ?_; simp only [Act.put, Z1, Z2, Z3])
        | (refine Held.wpList_run (w := w) rfl (v := .int .i64 q2) (y_quo (S := fun _ => True) a d2 rfl rfl rfl hq2 _ trivial) ?_; simp only [Act.put, Z1, Z2, Z3])
        | (refine Held.wpList_run (w := w) rfl (v := .int .i64 r1) (y_rem (S := fun _ => True) q1 2 rfl rfl rfl hm1 _ trivial) ?_; simp only [Act.put, Z1, Z2, Z3])
        | (refine Held.wpList_run (w := w) rfl (v := .int .i64 r2) (y_rem (S := fun _ => True) q2 2 rfl rfl rfl hm2 _ trivial) ?_; simp only [Act.put, Z1, Z2, Z3]))
      go_ret
      exact ⟨Mem.ret_bool rfl, rfl⟩
    · have hzd : decide (r1 = 0) = false := by simp [hz]
      have hne : (r1 != 0) = true := by simp [hz]
      rw [hzd, Bool.false_and]
      clear hzd
      go_enter Try.func20, Try.ntmps20
      go_wp2_with fail
      refine H.mono ?_
      rintro e w1 ⟨rfl, rfl⟩
      go_wp2_with (first
        | (refine Held.wpList_run (w := w) rfl (v := .int .i64 ((t - 1 : Nat) : Int)) (y_sub (S := fun _ => True) (t : Int) 1 rfl rfl rfl hsub _ trivial) ?_; simp only [Act.put, Z1, Z2, Z3])
        | (refine Held.wpList_run (w := w) rfl (v := .int .u64 ((t - 1 : Nat) : Int)) (Held.y_convert (S := fun _ => True) rfl rfl (by kernel_rfl) Try.underlying35 hc1 _ trivial) ?_; simp only [Act.put, Z1, Z2, Z3])
        | (refine Held.wpList_run (w := w) rfl (v := .int .i64 d1) (y_shl (S := fun _ => True) 1 ((t - 1 : Nat) : Int) rfl rfl rfl s1 _ trivial) ?_; simp only [Act.put, Z1, Z2, Z3])
        | (refine Held.wpList_run (w := w) rfl (v := .int .i64 q1) (y_quo (S := fun _ => True) a d1 rfl rfl rfl hq1 _ trivial) ?_; simp only [Act.put, Z1, Z2, Z3])
        | (refine Held.wpList_run (w := w) rfl (v := .int .i64 r1) (y_rem (S := fun _ => True) q1 2 rfl rfl rfl hm1 _ trivial) ?_; simp only [Act.put, Z1, Z2, Z3]))
      go_ret
      exact ⟨rfl, rfl⟩
end Go.Proofs.Ytbhgonnonhiocaa.Bi
namespace Go.Proofs.Ytbhgonnonhiocaa.Mg
open Go.RowKit Go.Shelf Go.Proofs.Ytbhgonnonhiocaa Mem Held Go.Proofs.Ytbhgonnonhiocaa.Range
attribute [local go_sem] Oper.semAt_some
attribute [local irreducible] wpList wpListIn Calls
theorem other_any (f n : Int) (w : World) :
    Calls Try.prog 27 #[.int .i64 f, .int .i64 n] w fun e w' => ∃ bf bn : Nat, e = .returned (.func (.func 35) #[] #[.pointer (some ⟨bn, 0, none⟩), .pointer (some ⟨bf, 0, none⟩)]) ∧ Blk w' bf 3 #[.int .i64 f] ∧ Blk w' bn 3 #[.int .i64 n] ∧ w.heap.size ≤ bf ∧ w.heap.size ≤ bn ∧ Below w.heap.size w w' := by
  go_enter Try.func27, Try.ntmps27
  go_wp2_with (first
    | (refine Held.wpList_box_cell (w := w) rfl 3 _ rfl (.int .i64 f) rfl rfl ?_; intro w1 q1 g1 z1)
    | (refine Held.wpList_box_cell (w := w1) rfl 3 _ rfl (.int .i64 n) rfl rfl ?_; intro w2 q2 g2 z2))
  have q1 := Blk.grown q1 g2 (by simp)
  go_ret
  exact ⟨_, _, rfl, q1, q2, Nat.le_refl _, g1.size, ((Below.refl _ w).grown g1 (Nat.le_refl _) (by simp)).grown g2 g1.size (by simp)⟩
def atP (f n : Nat) (k : Nat) : Option Nat := if f + 2 * k < n then some (f + 2 * k) else none
def encP (x : Nat) : Array Value := #[.int .i64 (x : Int)]
theorem atP_some {f n k x : Nat} (h : atP f n k = some x) : x = f + 2 * k ∧ f + 2 * k < n := by
  unfold atP at h
  split at h
  · rename_i hk
    injection h with h
    exact ⟨h.symm, hk⟩
  · cases h
theorem atP_none {f n k : Nat} (h : atP f n k = none) : n ≤ f + 2 * k := by
  unfold atP at h
  split at h
  · cases h
  · omega
set_option maxRecDepth 100000 in
set_option maxHeartbeats 4000000 in
theorem places_stop (N bn bf : Nat) (S : Nat → Prop) (f n : Nat) (w : World) (hf : f ≤ 1) (hn : n ≤ 1073741824) (hbn : w.cell? ⟨bn, 0, none⟩ = some (.int .i64 (n : Int))) (hbf : w.cell? ⟨bf, 0, none⟩ = some (.int .i64 (f : Int))) (hSn : ¬ S bn) (hSf : ¬ S bf) :
    SeqStop Fence.wide N Try.prog 35 #[.pointer (some ⟨bn, 0, none⟩), .pointer (some ⟨bf, 0, none⟩)] encP (Only S) (atP f n) w := by
  intro l J Jx Nb W hW hJ hJx hN hY h0
  have kbn := (hW.cell (p := ⟨bn, 0, none⟩) (World.block_lt_of_cell? w _ hbn)).trans hbn
  have kbf := (hW.cell (p := ⟨bf, 0, none⟩) (World.block_lt_of_cell? w _ hbf)).trans hbf
  clear hbn hbf hW hJx
  refine callsIn_of_wp Try.func35 rfl trivial ?_ rfl
  simp only [Try.ntmps35, List.size_toArray, List.length_cons, List.length_nil, Nat.reduceAdd, Nat.reduceSub, Array.replicate_succ, Array.replicate_zero, List.push_toArray, List.append_toArray, List.nil_append, List.cons_append]
  gi_wp2_with fail
  gi_loopw [6] (fun i wr => ∃ p : Nat, p ≤ n ∧ i = .int .i64 p ∧ J ((p + 1 - f) / 2) wr ∧ Only S W wr) (fun i _ => n - (intOf i).toNat)
  case atStart => exact ⟨0, by omega, rfl, by rw [show (0 + 1 - f) / 2 = 0 by omega]; exact h0, Only.refl _ _⟩
  case round =>
    obtain ⟨p, hp, rfl, Jk, ok⟩ := hrel
    by_cases hlt : p < n
    · have kf := ok.cell (p := ⟨bf, 0, none⟩) hSf kbf
      have hlt' : (p : Int) < (n : Int) := by omega
      obtain ⟨r, hr⟩ : ∃ r, p % 2 = r := ⟨_, rfl⟩
      have hmod : ((p : Int)).tmod 2 = (r : Int) := by rw [Bi.rem_of (by omega)]; omega
      have hm := fun W => Held.run_rem (P := Try.prog) 3 .i64 (a := (p : Int)) (b := 2) (r := (r : Int)) (by omega) hmod W
      by_cases hb : r = f
      · have hk : f + 2 * ((p + 1 - f) / 2) = p := by omega
        have hYk := hY ((p + 1 - f) / 2) p wr Jk (by unfold atP; rw [hk, if_pos hlt])
        have hnx : (p + 1 - f) / 2 + 1 = (p + 1 + 1 - f) / 2 := by omega
        rw [hnx] at hYk
        obtain ⟨fn, tmps, assign, body, hy, hR⟩ := hYk
        have hy : (Instr.yield l #[.int .i64 (p : Int)]).run Try.prog wr = .ok (.round l fn tmps assign body) wr := hy
        clear hY hN hnx hk hmod hr
        subst hb
        gi_wp2_with (first
          | (refine Held.wpListIn_one (r := none) rfl (by intro c e; cases e) ?_; refine Held.wpList_run (w := wr) rfl (v := .int .i64 (r : Int)) (Bi.y_rem (S := fun _ => True) (p : Int) 2 rfl rfl rfl hm _ trivial) ?_; refine wpList_nil ⟨rfl, ?_⟩))
        refine ⟨fun h => (by cases h), ?_⟩
        refine hR.mono ?_
        rintro e W4 (⟨rfl, J4, o4⟩ | ⟨rfl, Jx4⟩)
        · have o5 := ok.trans o4
          clear hR hy o4 ok Jk
          gi_wp2_with fail
          go_roundw
          case rel => exact ⟨p + 1, by omega, by go_num, J4, o5⟩
          case measure => simp [intOf]; omega
        · gi_wp2_with fail
          exact bodyPost_ret (results_none rfl _ _ _) rfl ⟨⟨_, rfl⟩, .inr ⟨_, Jx4⟩⟩
      · have hnx : (p + 1 - f) / 2 = (p + 1 + 1 - f) / 2 := by omega
        rw [hnx] at Jk
        have hb' : ¬ (r : Int) = (f : Int) := by omega
        have hqf : decide ((r : Int) = (f : Int)) = false := by simp; omega
        clear hY hN hnx hmod hr hb hb'
        gi_wp2_with (first
          | (refine Held.wpListIn_one (r := none) rfl (by intro c e; cases e) ?_; refine Held.wpList_run (w := wr) rfl (v := .int .i64 (r : Int)) (Bi.y_rem (S := fun _ => True) (p : Int) 2 rfl rfl rfl hm _ trivial) ?_; refine wpList_nil ⟨rfl, ?_⟩)
          | (refine Held.wpListIn_one (r := none) rfl (by intro c e; cases e) ?_; refine Held.wpList_run (w := wr) rfl (v := .bool false) (Held.y_eqI (S := fun _ => True) rfl rfl rfl hqf _ trivial) ?_; refine wpList_nil ⟨rfl, ?_⟩; simp only [Act.put, Z1, Z2, Z3]))
        refine ⟨fun _ h => (by cases h), ?_⟩
        gi_wp2_with fail
        try refine ⟨fun _ h => (by cases h), ?_⟩
        gi_wp2_with fail
        go_roundw
        case rel => exact ⟨p + 1, by omega, by go_num, Jk, ok⟩
        case measure => simp [intOf]; omega
    · have hpn : p = n := by omega
      subst hpn
      gi_wp2_with fail
      go_end0
      exact ⟨⟨_, rfl⟩, .inl ⟨(p + 1 - f) / 2, by unfold atP; rw [if_neg (by omega)], Jk⟩⟩
end Go.Proofs.Ytbhgonnonhiocaa.Mg
namespace Go.Proofs.Ytbhgonnonhiocaa.Rs
open Go.RowKit Go.Shelf Go.Proofs.Ytbhgonnonhiocaa Mem Held Rc
attribute [local irreducible] wpList wpListIn Calls
theorem eqr_any (a b : R) (w : World) : Calls Try.prog 26 #[.agg #[.bool a.d, .int .i64 a.k, .int .i64 a.v, .int .i64 a.s], .agg #[.bool b.d, .int .i64 b.k, .int .i64 b.v, .int .i64 b.s]] w fun e w' => e = .returned (.bool (decide (a = b))) ∧ Below w.heap.size w w' := by
  have HR := Lib.hid (show decide (a.d = b.d ∧ a.k = b.k ∧ a.v = b.v ∧ a.s = b.s) = decide (a = b) from decide_eq_decide.2 R.iff.symm)
  go_enter Try.func26, Try.ntmps26
  go_wp2_with (first
    | (refine wpList_box_blk (w := w) rfl 26 _ rfl _ rfl ?_; intro w1 q1 g1 z1)
    | (refine wpList_box_blk (w := w1) rfl 26 _ rfl _ rfl ?_; intro w2 q2 g2 z2; have q1 := q1.grown g2 (by simp))
    | (refine wpList_load_blk (w := w2) rfl 26 _ rfl w.heap.size 4 rfl 26 _ q1 _ Try.underlying26 rfl (by kernel_rfl) rfl ?_)
    | (refine wpList_load_blk (w := w2) rfl 26 _ rfl w1.heap.size 4 rfl 26 _ q2 _ Try.underlying26 rfl (by kernel_rfl) rfl ?_)
    | (refine wpList_run rfl (v := .bool (decide (a = b))) (y_eqr (S := fun _ => True) rfl rfl rfl HR.out _ trivial) ?_))
  go_ret
  exact ⟨rfl, ((Below.refl _ w).grown g1 (Nat.le_refl _) (by simp)).grown g2 g1.size (by simp)⟩
theorem take_stepR {xs ys : List R} {k : Nat} (hx : k < xs.length) (hy : k < ys.length) (h : xs.take k = ys.take k) (e : xs.getD k R0 = ys.getD k R0) : xs.take (k + 1) = ys.take (k + 1) := by
  rw [List.take_add_one, List.take_add_one, h]
  simp only [List.getD_eq_getElem?_getD, List.getElem?_eq_getElem hx, List.getElem?_eq_getElem hy, Option.getD_some] at e
  rw [List.getElem?_eq_getElem hx, List.getElem?_eq_getElem hy, e]
set_option maxRecDepth 100000 in
set_option maxHeartbeats 4000000 in
theorem same_any (B B' : Nat) (A A' : Option Addr) (n n' c c' : Nat) (rs rs' : List R) (w : World) (h : Recs w B A n rs) (h' : Recs w B' A' n' rs') (hB : B ≤ w.heap.size) (hB' : B' ≤ w.heap.size) (hn : n ≤ 1073741824) (hn' : n' ≤ 1073741824) :
    Calls Try.prog 25 #[.slice A n c, .slice A' n' c', .func (.func 26) #[] #[]] w fun e w' => e = .returned (.bool (decide (rs = rs'))) ∧ Below w.heap.size w w' := by
  by_cases hnn : n = n'
  · subst hnn
    have hne : ((n : Int) != (n : Int)) = false := by simp
    have HL := Lib.hid h.1
    have HL' := Lib.hid h'.1
    go_enter Try.func25, Try.ntmps25
    go_wp2_with fail
    go_loopw [7] (fun i wr => ∃ k : Nat, k ≤ n ∧ i = .int .i64 k ∧ Below w.heap.size w wr ∧ Hid (rs.take k = rs'.take k)) (fun i _ => n - (intOf i).toNat)
    case atStart => exact ⟨0, by omega, rfl, Below.refl _ _, Lib.hid rfl⟩
    case round =>
      obtain ⟨k, hk, rfl, hst, ht⟩ := hrel
      have hBk := Nat.le_trans hB hst.size
      have hBk' := Nat.le_trans hB' hst.size
      by_cases hlt : k < n
      · obtain ⟨b, off, rfl, hb, hx⟩ := (h.below (hst.mono hB)).at_ hlt
        obtain ⟨b', off', rfl, hb', hy⟩ := (h'.below (hst.mono hB')).at_ hlt
        have hlt' : (k : Int) < (n : Int) := by omega
        have hk0 : (0 : Int) ≤ (k : Int) := by omega
        by_cases hq0 : rs.getD k R0 = rs'.getD k R0
        · have HT := Lib.hid (take_stepR (by have := HL.out; omega) (by have := HL'.out; omega) ht.out hq0)
          have hq : decide (rs.getD k R0 = rs'.getD k R0) = true := by simpa using hq0
          clear hq0
          generalize rs.getD k R0 = x at hx hq
          generalize rs'.getD k R0 = y at hy hq
          go_wp2_with fail
          refine wp_region_held (S := fun W => Below wr.heap.size wr W) (by kernel_rfl) ?_
          change wpAnyH _ _ _ _ _ _ _ _ wr.drew
          have c0_0 := (Below.refl wr.heap.size wr).drew
          refine Held.tk (v := .func (.func 26) #[] #[]) 0 (some 19) rfl (Held.y_move rfl rfl) c0_0 ?_
          simp only [Act.put, Z1, Z2, Z3]
          refine Held.tk (v := .slice (some ⟨b, off, none⟩) n c) 1 (some 20) rfl (Held.y_move rfl rfl) c0_0 ?_
          simp only [Act.put, Z1, Z2, Z3]
          refine Held.tk (v := .int .i64 (k : Int)) 2 (some 21) rfl (Held.y_move rfl rfl) c0_0 ?_
          simp only [Act.put, Z1, Z2, Z3]
          refine Held.tk (v := .pointer (some ⟨b, off + k * 4, none⟩)) 3 (some 22) rfl (Held.y_addr rfl rfl rfl (run_addr_of 22 26 b off n c k 4 .i64 Try.underlying22 (by kernel_rfl) hlt)) c0_0 ?_
          simp only [Act.put, Z1, Z2, Z3]
          refine Held.tk (v := .agg #[.bool x.d, .int .i64 x.k, .int .i64 x.v, .int .i64 x.s]) 4 (some 23) rfl (y_load_range (n := 4) (cs := x.cells) rfl rfl Try.underlying26 rfl (by kernel_rfl) rfl (fun W hW => range_below hx hW (Nat.lt_of_lt_of_le hb hBk))) c0_0 ?_
          simp only [Act.put, Z1, Z2, Z3]
          refine Held.tk (v := .slice (some ⟨b', off', none⟩) n c') 5 (some 24) rfl (Held.y_move rfl rfl) c0_0 ?_
          simp only [Act.put, Z1, Z2, Z3]
          refine Held.tk (v := .int .i64 (k : Int)) 6 (some 25) rfl (Held.y_move rfl rfl) c0_0 ?_
          simp only [Act.put, Z1, Z2, Z3]
          refine Held.tk (v := .pointer (some ⟨b', off' + k * 4, none⟩)) 7 (some 26) rfl (Held.y_addr rfl rfl rfl (run_addr_of 22 26 b' off' n c' k 4 .i64 Try.underlying22 (by kernel_rfl) hlt)) c0_0 ?_
          simp only [Act.put, Z1, Z2, Z3]
          refine Held.tk (v := .agg #[.bool y.d, .int .i64 y.k, .int .i64 y.v, .int .i64 y.s]) 8 (some 27) rfl (y_load_range (n := 4) (cs := y.cells) rfl rfl Try.underlying26 rfl (by kernel_rfl) rfl (fun W hW => range_below hy hW (Nat.lt_of_lt_of_le hb' hBk'))) c0_0 ?_
          simp only [Act.put, Z1, Z2, Z3]
          refine Held.one 9 (by kernel_rfl) ?_
          refine Rs.op_callv 9 (some 28) 26 #[] #[.agg #[.bool x.d, .int .i64 x.k, .int .i64 x.v, .int .i64 x.s], .agg #[.bool y.d, .int .i64 y.k, .int .i64 y.v, .int .i64 y.s]] rfl rfl rfl rfl rfl (enters_of Try.func26 (by kernel_rfl) rfl) (by simp [Act.eval])
            (by have := eqr_any x y wr.drew; rwa [hq] at this) ?_
          rintro e w1 ⟨rfl, b1⟩
          have c0_1 := c0_0.trans (b1.mono c0_0.size)
          refine ⟨_, rfl, c0_1, ?_⟩
          simp only [Act.put, Z1, Z2, Z3]
          refine Held.tk (v := .bool false) 10 (some 29) rfl (Held.y_not rfl rfl rfl) c0_1 ?_
          simp only [Act.put, Z1, Z2, Z3]
          refine wpAnyH_done (by kernel_rfl) ?_ _
          have dz := hst.trans (c0_1.mono hst.size)
          generalize w1 = wz at dz ⊢
          clear hx hy c0_1
          go_wp2_with fail
          go_roundw
          case rel => exact ⟨k + 1, by omega, by go_num, dz, HT⟩
          case measure => simp [intOf]; omega
        · have HF := Lib.hid (show decide (rs = rs') = false by
            rw [decide_eq_false_iff_not]; intro e; exact hq0 (by rw [e]))
          have hq : decide (rs.getD k R0 = rs'.getD k R0) = false := by simpa using hq0
          clear hq0
          generalize rs.getD k R0 = x at hx hq
          generalize rs'.getD k R0 = y at hy hq
          go_wp2_with fail
          refine wp_region_held (S := fun W => Below wr.heap.size wr W) (by kernel_rfl) ?_
          change wpAnyH _ _ _ _ _ _ _ _ wr.drew
          have c0_0 := (Below.refl wr.heap.size wr).drew
          refine Held.tk (v := .func (.func 26) #[] #[]) 0 (some 19) rfl (Held.y_move rfl rfl) c0_0 ?_
          simp only [Act.put, Z1, Z2, Z3]
          refine Held.tk (v := .slice (some ⟨b, off, none⟩) n c) 1 (some 20) rfl (Held.y_move rfl rfl) c0_0 ?_
          simp only [Act.put, Z1, Z2, Z3]
          refine Held.tk (v := .int .i64 (k : Int)) 2 (some 21) rfl (Held.y_move rfl rfl) c0_0 ?_
          simp only [Act.put, Z1, Z2, Z3]
          refine Held.tk (v := .pointer (some ⟨b, off + k * 4, none⟩)) 3 (some 22) rfl (Held.y_addr rfl rfl rfl (run_addr_of 22 26 b off n c k 4 .i64 Try.underlying22 (by kernel_rfl) hlt)) c0_0 ?_
          simp only [Act.put, Z1, Z2, Z3]
          refine Held.tk (v := .agg #[.bool x.d, .int .i64 x.k, .int .i64 x.v, .int .i64 x.s]) 4 (some 23) rfl (y_load_range (n := 4) (cs := x.cells) rfl rfl Try.underlying26 rfl (by kernel_rfl) rfl (fun W hW => range_below hx hW (Nat.lt_of_lt_of_le hb hBk))) c0_0 ?_
          simp only [Act.put, Z1, Z2, Z3]
          refine Held.tk (v := .slice (some ⟨b', off', none⟩) n c') 5 (some 24) rfl (Held.y_move rfl rfl) c0_0 ?_
          simp only [Act.put, Z1, Z2, Z3]
          refine Held.tk (v := .int .i64 (k : Int)) 6 (some 25) rfl (Held.y_move rfl rfl) c0_0 ?_
          simp only [Act.put, Z1, Z2, Z3]
          refine Held.tk (v := .pointer (some ⟨b', off' + k * 4, none⟩)) 7 (some 26) rfl (Held.y_addr rfl rfl rfl (run_addr_of 22 26 b' off' n c' k 4 .i64 Try.underlying22 (by kernel_rfl) hlt)) c0_0 ?_
          simp only [Act.put, Z1, Z2, Z3]
          refine Held.tk (v := .agg #[.bool y.d, .int .i64 y.k, .int .i64 y.v, .int .i64 y.s]) 8 (some 27) rfl (y_load_range (n := 4) (cs := y.cells) rfl rfl Try.underlying26 rfl (by kernel_rfl) rfl (fun W hW => range_below hy hW (Nat.lt_of_lt_of_le hb' hBk'))) c0_0 ?_
          simp only [Act.put, Z1, Z2, Z3]
          refine Held.one 9 (by kernel_rfl) ?_
          refine Rs.op_callv 9 (some 28) 26 #[] #[.agg #[.bool x.d, .int .i64 x.k, .int .i64 x.v, .int .i64 x.s], .agg #[.bool y.d, .int .i64 y.k, .int .i64 y.v, .int .i64 y.s]] rfl rfl rfl rfl rfl (enters_of Try.func26 (by kernel_rfl) rfl) (by simp [Act.eval])
            (by have := eqr_any x y wr.drew; rwa [hq] at this) ?_
          rintro e w1 ⟨rfl, b1⟩
          have c0_1 := c0_0.trans (b1.mono c0_0.size)
          refine ⟨_, rfl, c0_1, ?_⟩
          simp only [Act.put, Z1, Z2, Z3]
          refine Held.tk (v := .bool true) 10 (some 29) rfl (Held.y_not rfl rfl rfl) c0_1 ?_
          simp only [Act.put, Z1, Z2, Z3]
          refine wpAnyH_done (by kernel_rfl) ?_ _
          have dz := hst.trans (c0_1.mono hst.size)
          generalize w1 = wz at dz ⊢
          clear hx hy c0_1
          go_wp2_with fail
          go_ret
          exact ⟨Mem.ret_bool HF.out.symm, dz⟩
      · have HF := Lib.hid (show decide (rs = rs') = true by
          have e1 := ht.out
          rw [List.take_of_length_le (by have := HL.out; omega), List.take_of_length_le (by have := HL'.out; omega)] at e1
          simpa using e1)
        go_wp2_with fail
        go_ret
        exact ⟨Mem.ret_bool HF.out.symm, hst⟩
  · have hne : ((n : Int) != (n' : Int)) = true := by simp; omega
    have HF := Lib.hid (show decide (rs = rs') = false by
      rw [decide_eq_false_iff_not]; intro e; exact hnn (by rw [← h.1, ← h'.1, e]))
    clear h h' hnn
    go_enter Try.func25, Try.ntmps25
    go_wp2_with fail
    go_ret
    exact ⟨Mem.ret_bool HF.out.symm, Below.refl _ _⟩
end Go.Proofs.Ytbhgonnonhiocaa.Rs
namespace Go.Proofs.Ytbhgonnonhiocaa.Rs
open Go.RowKit Go.Shelf Go.Proofs.Ytbhgonnonhiocaa Mem Held Rc
set_option maxRecDepth 100000
attribute [local irreducible] wpList wpListIn Calls
theorem info_recs : (Try.prog.info? 26).map (fun i => (i.size, i.bytes)) = some (4, 32) := by kernel_rfl
theorem wpList_append_ran {P : Program} {ops : Array Oper} {rest : List Oper} {o : Oper} {a : Act} {w : World} {Q : Exit → Act → World → Prop} (hgd : o.guard = none) (s x : Operand) (ts tx : TypeId) (ho : o.op = .call { callee := .builtin .append, args := #[s, x], argTypes := #[ts, tx] }) (u v r : Value) (w' : World) (hs : a.eval s = u) (hx : a.eval x = v)
    (hr : (Builtin.append_ #[ts, tx] o.type #[u, v]).run P w = .ok r w') (h : wpList P ops Q rest (a.put o.dst r) w') : wpList P ops Q (o :: rest) a w := by
  refine wpList_plain hgd fun K hK => ?_
  unfold Oper.wp execOp
  simp only [ho, resolve, invoke, builtin, Sem.run_bind, Sem.run_pure, Result.andThen_ok, List.map_toArray, List.map_cons, List.map_nil, hs, hx, hr]
  exact hK _ _ h
def OwnR (w : World) (base : Nat) (v : Value) (rs : List R) : Prop := w.ownsRow base 26 4 v rs.length (flat rs)
theorem OwnR.nil (w : World) (base : Nat) : OwnR w base (.slice none 0 0) [] := World.ownsRow_nil _ _ _ _
theorem OwnR.form {w : World} {base : Nat} {v : Value} {rs : List R} (h : OwnR w base v rs) : ∃ A c, v = .slice A rs.length c ∧ rs.length ≤ c ∧ c ≤ maxLen := Held.row_form h
theorem OwnR.kept {w w' : World} {base : Nat} {v : Value} {rs : List R} (h : OwnR w base v rs) {row : Option Nat} (hg : w.grownBy w' row) (hne : v.ownBlock = none ∨ v.ownBlock ≠ row) : OwnR w' base v rs := World.ownsRow.kept h hg hne
theorem OwnR.below {w w' : World} {base : Nat} {v : Value} {rs : List R} (h : OwnR w base v rs) (hb : Below w.heap.size w w') : OwnR w' base v rs := h.kept (grown_of_below hb none) (by cases v.ownBlock <;> simp)
theorem wpList_build_rec {ops : Array Oper} {rest : List Oper} {o : Oper} {a : Act} {w : World} {Q : Exit → Act → World → Prop} (hgd : o.guard = none) (y : Operand) (ho : o.op = .buildSlice 22 1 #[(0, y)]) (f : R) (hy : a.eval y = .agg #[.bool f.d, .int .i64 f.k, .int .i64 f.v, .int .i64 f.s])
    (h : ∀ w', Blk w' w.heap.size 26 f.cells.toArray → w.grownBy w' none → Hid (w'.heap.size = w.heap.size + 1) → wpList Try.prog ops Q rest (a.put o.dst (.slice (some ⟨w.heap.size, 0, none⟩) 1 1)) w') : wpList Try.prog ops Q (o :: rest) a w := by
  obtain ⟨ie, hie, hsb⟩ := Option.map_eq_some_iff.1 info_recs
  simp only [Prod.mk.injEq] at hsb
  have hz : ie.zero = some (.agg #[.bool false, .int .i64 0, .int .i64 0, .int .i64 0]) := by
    have := zero_rec
    rw [hie] at this
    exact this
  refine Go.wpList_buildSlice hgd 22 26 1 #[(0, y)] ho f.cells.toArray ie _ Try.underlying22 hie hz (by rw [hsb.1]; omega) (by rw [hsb.1]; omega) ?_ (h _ (heap_alloc_new w _) (World.grownBy_alloc w _ none) (Lib.hid (by simp)))
  have hf := Great.fill_whole (s := 4) (by omega) [.agg f.cells.toArray] ((Array.range (1 * ie.size)).map ((Value.agg #[.bool false, .int .i64 0, .int .i64 0, .int .i64 0]).cells[· % (Value.agg #[.bool false, .int .i64 0, .int .i64 0, .int .i64 0]).cells.size]!)) (by simp [Value.cells, R.cells]) (by simp [hsb.1])
  rw [hsb.1] at hf ⊢
  simp only [List.map_toArray, List.map_cons, List.map_nil, hy]
  refine Eq.trans ?_ (hf.trans ?_)
  · rfl
  · simp [Value.cells, R.cells]
end Go.Proofs.Ytbhgonnonhiocaa.Rs
