/-
  A region that draws its order and in the end stores into what it has loaded: what is loaded ahead of a store that waits for it may be taken first, as long as a condition holds till that store.
  dominohelp.Seq2 of package bitonic's iterator: the first places of a round's pairs, and the second ones, as two lists of the call's own.
  dominohelp.Seq2 of package bitonic's iterator, by its contract.
  dominohelp.Plain of lists of numbers, and the document's own answers for package bitonic, by their contracts.
  The document's own answers for package bitonic: which stage and step a round is, which pairs it has, and which of them are up, by their contracts.
  The document's own answer for package bitonic: the first places of a round's pairs, and how far the second ones are, by its contract.
  What the rows' condition on math/bits' tables gives: the table of 64 numbers holds what the program's text lays.
  What each task of a job reads and writes, who makes a spot, when a task is ready, where all stands in the end, plain: no program here.
  What the frame of a proof says of a record that came in by value; two records, two arrays of numbers held against each other.
  Package record's mayBe, and its iterator over words, by their contracts.
  Package record's Pack and Take, by their contracts.
-/
import Derived.Test.YtipmfficjomcoaaDoorB2
import Derived.Test.YtipmfficjomcoaaDoorB3
import Derived.Lib.LaidTab
import Derived.LaidMore
import Derived.Stop.Joined
import Derived.Stop.LaidErr
import Derived.Test.YtipmfficjomcoaaDoorB1
import Derived.WideShapes
import Derived.ChangeArms
import Derived.Laws.StructEq
set_option linter.unusedVariables false
namespace Go.Proofs.YtipmfficjomcoaaDoor.Held
open Go.RowKit
def wpAnyB (P : Program) (md : Region.Mode) (ops : Array Oper) (Q : Exit → Act → World → Prop) (T : World → Prop) (s : Nat) : Nat → Array Bool → Act → World → Prop
  | 0, listed, a, w => Region.ready md ops listed = [] ∧ Q .normal a w
  | fuel + 1, listed, a, w =>
    (Region.ready md ops listed = [] → Q .normal a w) ∧
    ∀ i ∈ Region.ready md ops listed, wpOp P ops Q i (fun a' w' => ((listed.setIfInBounds i true).getD s true = false → T w') ∧ wpAnyB P md ops Q T s fuel (listed.setIfInBounds i true) a' w') a w
section
variable {P : Program} {ops : Array Oper} {Q : Exit → Act → World → Prop} {md : Region.Mode} {T : World → Prop} {s : Nat}
theorem wpAny_of_bar : ∀ (fuel : Nat) (listed : Array Bool) (a : Act) (w : World), wpAnyB P md ops Q T s fuel listed a w → wpAny P md ops Q fuel listed a w
  | 0, _, _, _, h => h
  | fuel + 1, _, _, _, h => ⟨h.1, fun i hi => wpOp_mono (fun a' w' h' => wpAny_of_bar fuel _ a' w' h'.2) (h.2 i hi)⟩
theorem not_yet {listed : Array Bool} {j : Nat} {oj : Oper} (hj : j ∈ Region.ready md ops listed) (ho : ops[j]? = some oj) {e : Edge} (he : e ∈ oj.after) (hb : Region.binds md e = true) : listed.getD e.on true ≠ false := fun hx => by
  obtain ⟨_, o, h1, h2⟩ := mem_ready.1 hj
  obtain rfl : o = oj := by rw [h1] at ho; exact Option.some.inj ho
  have := h2 e he hb
  by_cases c : e.on < listed.size
  · simp [c] at hx this; exact absurd (this.symm.trans hx) (by simp)
  · simp [Array.getElem?_eq_none (Nat.le_of_not_lt c)] at this
structure Early (md : Region.Mode) (ops : Array Oper) (B : List Nat) (i : Nat) (oi : Oper) (listed : Array Bool) : Prop where
  ready : i ∈ Region.ready md ops listed
  free : ∀ j oj, ops[j]? = some oj → j ≠ i → listed.getD j true = false → (∀ e ∈ oj.after, Region.binds md e = true → e.on ≠ i) → oi.apart ops oj = true
  late : ∀ b ∈ B, listed.getD b true = false
def Waits (md : Region.Mode) (ops : Array Oper) (B : List Nat) (i : Nat) : Prop := i ∉ B ∧ ∀ b ∈ B, ∀ o, ops[b]? = some o → ∃ e ∈ o.after, Region.binds md e = true ∧ (e.on = i ∨ e.on ∈ B)
section
variable {B : List Nat} {i : Nat} {oi : Oper} {listed : Array Bool}
theorem Early.un (h : Early md ops B i oi listed) : listed.getD i true = false := (mem_ready.1 h.ready).1
theorem Early.waits (h : Early md ops B i oi listed) {j : Nat} {oj : Oper} (hj : j ∈ Region.ready md ops listed) (ho : ops[j]? = some oj) : ∀ e ∈ oj.after, Region.binds md e = true → e.on ≠ i :=
  fun e he hb heq => not_yet hj ho he hb (by rw [heq]; exact h.un)
theorem Early.out (h : Early md ops B i oi listed) (hw : Waits md ops B i) {j : Nat} (hj : j ∈ Region.ready md ops listed) : j ∉ B := fun hjB => by
  obtain ⟨_, oj, ho, _⟩ := mem_ready.1 hj
  obtain ⟨e, he, hb, hor⟩ := hw.2 j hjB oj ho
  rcases hor with h1 | h1
  · exact h.waits hj ho e he hb h1
  · exact not_yet hj ho he hb (h.late _ h1)
theorem Early.next (h : Early md ops B i oi listed) (hw : Waits md ops B i) {j : Nat} (hj : j ∈ Region.ready md ops listed) (hji : j ≠ i) : Early md ops B i oi (listed.setIfInBounds j true) where
  ready := ready_mono h.ready (Ne.symm hji)
  free k ok hk hki hun hno := h.free k ok hk hki (by
    by_cases e : j = k
    · exact e ▸ (mem_ready.1 hj).1
    · rwa [getD_set_ne true e] at hun) hno
  late b hb := by rw [getD_set_ne true (show ¬ j = b from fun e => h.out hw hj (by rw [e]; exact hb))]; exact h.late b hb
end
theorem wpAnyB_early {i : Nat} {oi : Oper} {v : Value} (hi : ops[i]? = some oi) (hsel : ∀ (j : Nat) (o : Oper) cs b, ops[j]? = some o → o.op ≠ .select cs b)
    (hQ : ∀ c a w, Q (.panic c) (a.put oi.dst v) w → Q (.panic c) a w) {B : List Nat} (hs : s ∈ B) (hw : Waits md ops B i) :
    ∀ (fuel : Nat) {listed : Array Bool} {a : Act} {w : World}, Early md ops B i oi listed → YieldsIf P ops T oi v a → T w →
      wpAnyB P md ops Q T s fuel (listed.setIfInBounds i true) (a.put oi.dst v) w → wpAnyB P md ops Q T s (fuel + 1) listed a w
  | fuel, listed, a, w, h, hy, hT, H => by
    refine ⟨fun h0 => absurd (h0 ▸ h.ready) (by simp), fun j hj => ?_⟩
    by_cases hji : j = i
    · exact hji ▸ hy.wpOp hi hT ⟨fun _ => hT, H⟩
    · match fuel, H with
      | 0, H => exact absurd (H.1 ▸ ready_mono hj hji) (by simp)
      | fuel + 1, H =>
        obtain ⟨hun, oj, ho, _⟩ := mem_ready.1 hj
        have step := wpOp_putIf ho (h.free j oj ho hji hun (h.waits hj ho)) (fun cs b => hsel i oi cs b hi) (fun cs b => hsel j oj cs b ho) hQ hy (H.2 j (ready_mono hj hji))
        have n := h.next hw hj hji
        refine wpOp_mono (fun a' w' k => ?_) step
        obtain ⟨k1, k2, k3⟩ := k
        rw [Array.setIfInBounds_comm _ _ (Ne.symm hji)] at k2 k3
        have hT' : T w' := k2 (by rw [getD_set_ne true (show ¬ i = s from fun e => hw.1 (by rw [e]; exact hs))]; exact n.late s hs)
        exact ⟨fun _ => hT', wpAnyB_early hi hsel hQ hs hw fuel n k1 hT' k3⟩
def waitsB (md : Region.Mode) (ops : Array Oper) (listed : Array Bool) (B : List Nat) (s i : Nat) : Bool :=
  B.contains s && !B.contains i && B.all fun b => !listed.getD b true && match ops[b]? with
    | some o => o.after.any fun e => Region.binds md e && (e.on == i || B.contains e.on)
    | none => false
theorem takeB (i : Nat) (d : Option Tmp) (B : List Nat) {oi : Oper} {v : Value} {fuel : Nat} {listed : Array Bool} {a : Act} {w : World} (hi : ops[i]? = some oi) (hd : oi.dst = d)
    (hs : Region.noSelect ops = true) (hf : Region.free md ops listed i = true) (hr : (Region.ready md ops listed).contains i = true) (hB : waitsB md ops listed B s i = true)
    (hQ : ∀ c a w, Q (.panic c) (a.put d v) w → Q (.panic c) a w) (hw : Region.wanted oi (yielded ops a.tmps) = true) (hy : ∀ w, T w → (execOp a.eval oi).run P w = .ok (.value v) w) (hT : T w)
    (h : wpAnyB P md ops Q T s fuel (listed.setIfInBounds i true) (a.put d v) w) : wpAnyB P md ops Q T s (fuel + 1) listed a w := by
  subst hd
  unfold waitsB at hB
  simp only [Bool.and_eq_true, List.contains_iff_mem, Bool.not_eq_true', List.all_eq_true] at hB
  obtain ⟨⟨h1, h2⟩, h3⟩ := hB
  have h2' : i ∉ B := fun hm => by rw [List.contains_iff_mem.2 hm] at h2; cases h2
  refine wpAnyB_early hi (Region.noSelect_spec hs) hQ h1 ⟨h2', fun b hb o ho => ?_⟩ fuel ⟨by simpa using hr, Region.free_spec hi hf, fun b hb => (h3 b hb).1⟩ (.inl ⟨hw, hy⟩) hT h
  have := (h3 b hb).2
  rw [ho] at this
  obtain ⟨k, hk, he⟩ := Array.any_eq_true.1 this
  simp only [Bool.and_eq_true, Bool.or_eq_true, beq_iff_eq, List.contains_iff_mem] at he
  exact ⟨o.after[k], Array.getElem_mem hk, he.1, he.2⟩
theorem oneB (i : Nat) {fuel : Nat} {listed : Array Bool} {a : Act} {w : World} (hr : Region.ready md ops listed = [i])
    (h : wpOp P ops Q i (fun a' w' => ((listed.setIfInBounds i true).getD s true = false → T w') ∧ wpAnyB P md ops Q T s fuel (listed.setIfInBounds i true) a' w') a w) : wpAnyB P md ops Q T s (fuel + 1) listed a w :=
  ⟨fun h0 => absurd (hr ▸ h0) (by simp), fun j hj => by rw [hr] at hj; obtain rfl := List.mem_singleton.1 hj; exact h⟩
theorem doneB {listed : Array Bool} {a : Act} {w : World} (hr : Region.ready md ops listed = []) (h : Q .normal a w) : ∀ fuel, wpAnyB P md ops Q T s fuel listed a w
  | 0 => ⟨hr, h⟩
  | _ + 1 => ⟨fun _ => h, by rw [hr]; simp⟩
theorem wp_region_bar {id : Nat} {a : Act} {w : World} (hm : P.follows .mixedOrders = true)
    (h : wpAnyB P .any ops Q T s ops.size (Array.replicate ops.size false) a { w with drawn := w.drawn + 1 }) : (Code.region id ops true).wp P Q a w :=
  wp_region_any hm (wpAny_of_bar _ _ _ _ h)
end
end Go.Proofs.YtipmfficjomcoaaDoor.Held
namespace Go.Proofs.YtipmfficjomcoaaDoor.Bi
open Go.RowKit Go.Shelf Go.Proofs.YtipmfficjomcoaaDoor Mem Held Go.Proofs.YtipmfficjomcoaaDoor.Range
attribute [local go_sem] Oper.semAt_some
attribute [local irreducible] wpList wpListIn Calls
theorem own_obj {w : World} {base : Nat} {t : TypeId} {k : IntKind} {v : Value} {zs : List Int} (h : Mem.Own w base t k v zs) {b : Nat} (e : v.ownBlock = some b) : ∃ cs fz, w.heap[b]? = some (.cells cs t fz) := by
  rcases h.2.2 with ⟨rfl, _⟩ | ⟨g, cap, cur, rfl, hb, hg, _⟩
  · simp [Value.ownBlock] at e
  · simp [Value.ownBlock] at e
    subst e
    exact ⟨_, _, hg⟩
theorem own_ne {w : World} {base : Nat} {t : TypeId} {k : IntKind} {v : Value} {zs : List Int} (h : Mem.Own w base t k v zs) {row : Option Nat} (hr : ∀ r, row = some r → ∃ o : Obj, w.heap[r]? = some o ∧ o.isCells = false) : v.ownBlock = none ∨ v.ownBlock ≠ row := by
  cases hq : v.ownBlock with
  | none => exact .inl rfl
  | some b =>
    refine .inr fun e => ?_
    obtain ⟨o, ho, hc⟩ := hr b e.symm
    obtain ⟨cs, fz, h2⟩ := own_obj h hq
    rw [h2] at ho
    cases ho
    cases hc
structure Two (w V : World) (B gx gy : Nat) (ux uy vx vy : Value) (xs ys : List Int) (W : World) : Prop where
  lx : gx < B
  ly : gy < B
  ne : gx ≠ gy
  hx : w.heap.size ≤ gx
  hy : w.heap.size ≤ gy
  cx : W.heap[gx]? = some (.cells #[ux] 30 (0, 0))
  cy : W.heap[gy]? = some (.cells #[uy] 30 (0, 0))
  ox : Mem.Own W B 3 .i64 vx xs
  oy : Mem.Own W B 3 .i64 vy ys
  ap : ∀ b, vx.ownBlock = some b → vy.ownBlock ≠ some b
  low : ∀ b, b < B → b ≠ gx → b ≠ gy → W.heap[b]? = V.heap[b]?
  bel : Below w.heap.size w W
  sz : B ≤ W.heap.size
section
variable {w V W W' : World} {B gx gy : Nat} {ux uy vx vy : Value} {xs ys : List Int}
theorem Two.keep (h : Two w V B gx gy ux uy vx vy xs ys W) {row : Option Nat} (hg : W.grownBy W' row) (hr : ∀ r, row = some r → B ≤ r ∧ ∃ o : Obj, W.heap[r]? = some o ∧ o.isCells = false) : Two w V B gx gy ux uy vx vy xs ys W' := by
  have hne : ∀ i, i < B → some i ≠ row := fun i hi e => by have := (hr i e.symm).1; omega
  have hr2 := fun r e => (hr r e).2
  refine ⟨h.lx, h.ly, h.ne, h.hx, h.hy, Held.keep_cells h.cx hg (hne _ h.lx), Held.keep_cells h.cy hg (hne _ h.ly), h.ox.kept hg (own_ne h.ox hr2), h.oy.kept hg (own_ne h.oy hr2), h.ap, fun b hb h1 h2 => ?_, h.bel.grown hg (by have := h.sz; have := h.hx; have := h.lx; omega) (fun r e => by have := (hr r e).1; have := h.hx; have := h.lx; omega), Nat.le_trans h.sz hg.size⟩
  exact (hg.block b (Nat.lt_of_lt_of_le hb h.sz) (hne b hb)).trans (h.low b hb h1 h2)
theorem Two.after (h : Two w V B gx gy ux uy vx vy xs ys W) (hb : Below W.heap.size W W') : Two w V B gx gy ux uy vx vy xs ys W' := h.keep (grown_of_below hb none) (fun r e => by cases e)
end
section
variable {P : Program} {ops : Array Oper} {Q : Exit → Act → World → Prop}
end
theorem info_int : (Tryd.prog.info? 3).map (fun i => (i.zero, i.size, i.bytes)) = some (some (.int .i64 0), 1, 8) := by kernel_rfl
theorem wf_i64 {z : Int} (h : -9223372036854775808 ≤ z) (h' : z ≤ 9223372036854775807) : (Lit.int .i64 z).wf = true := by simp [Lit.wf, IntKind.min, IntKind.max, IntKind.signed, IntKind.bits]; omega
end Go.Proofs.YtipmfficjomcoaaDoor.Bi
namespace Go.Proofs.YtipmfficjomcoaaDoor.Bi
open Go.RowKit Go.Shelf Go.Proofs.YtipmfficjomcoaaDoor Mem Held Go.Proofs.YtipmfficjomcoaaDoor.Range
attribute [local go_sem] Oper.semAt_some
attribute [local irreducible] wpList wpListIn Calls
def xsOf (l : List Nat) : List Int := l.map fun (a : Nat) => (a : Int)
def ysOf (t : Nat) (l : List Nat) : List Int := l.map fun (a : Nat) => (a : Int) + 2 ^ (t - 1)
def I2 (w V : World) (B gx gy t : Nat) (pre : List Nat) (W : World) : Prop := ∃ vx vy, Two w V B gx gy vx vy vx vy (xsOf pre) (ysOf t pre) W
theorem I2.from (w V : World) (B gx gy t : Nat) : OwnFrom B (I2 w V B gx gy t) := fun pre W W' row h hg hr => by
  obtain ⟨vx, vy, h⟩ := h
  exact ⟨vx, vy, h.keep hg hr⟩
end Go.Proofs.YtipmfficjomcoaaDoor.Bi
namespace Go.Proofs.YtipmfficjomcoaaDoor.Bi
open Go.RowKit Go.Shelf Go.Proofs.YtipmfficjomcoaaDoor Mem Held Help Go.Proofs.YtipmfficjomcoaaDoor.Range
attribute [local go_sem] Oper.semAt_some
attribute [local irreducible] wpList wpListIn Calls
set_option maxRecDepth 100000 in
set_option maxHeartbeats 2000000 in
theorem rpadded_any (n : Int) (w : World) (h0 : -9223372036854775808 ≤ n) (h1 : n ≤ 9223372036854775807) :
    Calls Tryd.prog 51 #[.int .i64 n] w fun e w' => e = .returned (.int .i64 (padV n)) ∧ w = w' := by
  obtain ⟨m, hm⟩ : ∃ m, min n 65536 = m := ⟨_, rfl⟩
  have hmin : (if (65536 : Int) < n then 65536 else n) = m := by split <;> omega
  have hm2 : m ≤ 65536 := by omega
  have HM := Lib.hid hm
  clear hm
  go_enter Tryd.func51, Tryd.ntmps51
  go_wp2_with (refine Held.wpList_run (w := w) rfl (v := .int .i64 m) (Held.y_min (S := fun _ => True) rfl rfl rfl hmin _ trivial) ?_)
  clear hmin
  go_loopw [3] (fun v wr => ∃ (k : Nat) (p : Int), v = .int .i64 p ∧ Hid (p = 2 ^ k) ∧ k ≤ 16 ∧ Hid (padF (16 - k) k n = padS n) ∧ w = wr) (fun v _ => (70000 - intOf v).toNat)
  case atStart => exact ⟨0, 1, rfl, Lib.hid (by simp), by omega, Lib.hid rfl, rfl⟩
  case round =>
    obtain ⟨k, p, rfl, hp, hk, hf, rfl⟩ := hrel
    have p1 : 1 ≤ p := by rw [hp.out]; exact two_pos k
    have p2 : p ≤ 65536 := by rw [hp.out]; exact two_16 hk
    by_cases c1 : p < m
    · have k16 : k < 16 := by
        rcases Nat.lt_or_ge k 16 with c | c
        · exact c
        · have : k = 16 := by omega
          have := hp.out
          subst k
          omega
      have HN := Lib.hid (show padF (16 - (k + 1)) (k + 1) n = padS n by
        have := HM.out
        rw [← hf.out, show 16 - k = (16 - (k + 1)) + 1 by omega]
        rw [hp.out] at c1
        conv => rhs; rw [padF, if_pos (show (2 : Int) ^ k < n by omega)])
      have HP := Lib.hid (show 2 * p = 2 ^ (k + 1) by rw [hp.out, two_succ])
      go_wp2_with fail
      go_roundw
      case rel => exact ⟨k + 1, 2 * p, by go_num, HP, by omega, HN, trivial⟩
      case measure => simp [intOf]; omega
    · have HN := Lib.hid (show p = padV n by
        have h1 := hf.out
        have h2 := HM.out
        unfold padV
        rw [← h1, hp.out]
        rw [hp.out] at c1
        cases hq : 16 - k with
        | zero => rfl
        | succ q =>
          have h3 := two_mono (show k ≤ 15 by omega)
          rw [show (2 : Int) ^ 15 = 32768 by decide] at h3
          rw [padF, if_neg (show ¬ (2 : Int) ^ k < n by omega)])
      go_wp2_with fail
      go_ret
      exact ⟨by rw [HN.out]; rfl, rfl⟩
def powV (n : Int) : Int := if padV n = n then (stg n : Int) else -1
set_option maxRecDepth 100000 in
set_option maxHeartbeats 2000000 in
theorem power_any (n : Int) (w : World) (h0 : -9223372036854775808 ≤ n) (h1 : n ≤ 9223372036854775807) :
    Calls Tryd.prog 52 #[.int .i64 n] w fun e w' => e = .returned (.int .i64 (powV n)) ∧ w = w' := by
  have H := rpadded_any n w h0 h1
  have hq1 : 1 ≤ padV n := two_pos _
  have hq2 : padV n ≤ 65536 := two_16 (padS_le n)
  by_cases c1 : n < 1
  · have HV := Lib.hid (show powV n = -1 by unfold powV; rw [if_neg (by omega)])
    go_enter Tryd.func52, Tryd.ntmps52
    go_wp2_with fail
    go_ret
    exact ⟨by rw [HV.out]; rfl, rfl⟩
  by_cases c2 : 65536 < n
  · have HV := Lib.hid (show powV n = -1 by unfold powV; rw [if_neg (by omega)])
    go_enter Tryd.func52, Tryd.ntmps52
    go_wp2_with fail
    go_ret
    exact ⟨by rw [HV.out]; rfl, rfl⟩
  by_cases c3 : padV n = n
  · have HV := Lib.hid (show powV n = (stg n : Int) by unfold powV; rw [if_pos c3])
    have h16 := stg_le n
    have hn : n = 2 ^ stg n := by
      rcases stg_is n with e | e
      · exact e
      · exact absurd c3 e.2
    have HS := Lib.hid (show n = 2 ^ stg n from hn)
    rw [c3] at H
    generalize stg n = S at *
    clear hn hq1 hq2 c3
    go_enter Tryd.func52, Tryd.ntmps52
    go_wp2_with fail
    refine H.mono ?_
    rintro e w1 ⟨rfl, rfl⟩
    go_wp2_with fail
    go_loopw [3] (fun v wr => ∃ k : Nat, v = .int .i64 (k : Int) ∧ k ≤ S ∧ w = wr) (fun v _ => S - (intOf v).toNat)
    case atStart => exact ⟨0, rfl, by omega, rfl⟩
    case round =>
      obtain ⟨k, rfl, hk, rfl⟩ := hrel
      have hc : IntKind.u64.wrap (k : Int) = (k : Int) := by rw [IntKind.wrap_u64]; omega
      have p1 := two_pos k
      have p2 := two_16 (show k ≤ 16 by omega)
      have hr := fun W : World => Rc.run_shl_ (P := Tryd.prog) 3 .i64 .u64 (a := 1) k (by show k ≤ 64; omega) W
      rw [show (1 : Int) * 2 ^ k = 2 ^ k by omega, show IntKind.i64.wrap (2 ^ k) = 2 ^ k by rw [IntKind.wrap_i64]; omega] at hr
      by_cases hlt : k < S
      · have hd : (2 : Int) ^ k < n := by
          have := two_mono (show k + 1 ≤ S by omega)
          rw [two_succ] at this
          have := HS.out
          omega
        obtain ⟨p, hp⟩ : ∃ p : Int, 2 ^ k = p := ⟨_, rfl⟩
        rw [hp] at hd hr p1 p2
        clear hp
        go_wp2_with (first
          | (refine Held.wpList_run (w := w) rfl (v := .int .u64 (k : Int)) (Held.y_convert (S := fun _ => True) rfl rfl (by kernel_rfl) Tryd.underlying37 hc _ trivial) ?_)
          | (refine Held.wpList_run (w := w) rfl (v := .int .i64 p) (Held.y_bin (S := fun _ => True) rfl rfl rfl (fun W => by simp [eqGuard]) hr _ trivial) ?_))
        go_roundw
        case rel => exact ⟨k + 1, by go_num, by omega, trivial⟩
        case measure => simp [intOf]; omega
      · obtain rfl : k = S := by omega
        have hd : ¬ (2 : Int) ^ k < n := by have := HS.out; omega
        obtain ⟨p, hp⟩ : ∃ p : Int, 2 ^ k = p := ⟨_, rfl⟩
        rw [hp] at hd hr p1 p2
        clear hp
        go_wp2_with (first
          | (refine Held.wpList_run (w := w) rfl (v := .int .u64 (k : Int)) (Held.y_convert (S := fun _ => True) rfl rfl (by kernel_rfl) Tryd.underlying37 hc _ trivial) ?_)
          | (refine Held.wpList_run (w := w) rfl (v := .int .i64 p) (Held.y_bin (S := fun _ => True) rfl rfl rfl (fun W => by simp [eqGuard]) hr _ trivial) ?_))
        go_ret
        exact ⟨by rw [HV.out]; rfl, rfl⟩
  · have HV := Lib.hid (show powV n = -1 by unfold powV; rw [if_neg c3])
    generalize padV n = q at *
    go_enter Tryd.func52, Tryd.ntmps52
    go_wp2_with fail
    refine H.mono ?_
    rintro e w1 ⟨rfl, rfl⟩
    go_wp2_with fail
    go_ret
    exact ⟨by rw [HV.out]; rfl, rfl⟩
theorem rrounds_any (n : Int) (w : World) (h0 : -9223372036854775808 ≤ n) (h1 : n ≤ 9223372036854775807) :
    Calls Tryd.prog 30 #[.int .i64 n] w fun e w' => e = .returned (.int .i64 (tri (stg n) : Int)) ∧ w = w' := by
  have H := power_any n w h0 h1
  by_cases c3 : padV n = n
  · have h16 := stg_le n
    have htri : tri (stg n) = stg n * (stg n + 1) / 2 := rfl
    rw [htri]
    rw [show powV n = (stg n : Int) by unfold powV; rw [if_pos c3]] at H
    generalize stg n = q at *
    clear htri h0 h1
    have b : q * (q + 1) ≤ 16 * 17 := Nat.mul_le_mul h16 (by omega)
    obtain ⟨m, hm⟩ : ∃ m, q * (q + 1) = m := ⟨_, rfl⟩
    have hmul : IntKind.i64.wrap ((q : Int) * ((q : Int) + 1)) = (m : Int) := by
      rw [show (q : Int) * ((q : Int) + 1) = (m : Int) by rw [← hm]; simp, IntKind.wrap_i64]; omega
    rw [hm] at b ⊢
    clear hm c3
    have hq0 : ¬ (q : Int) < 0 := by omega
    have hq := Held.run_quo (P := Tryd.prog) 3 .i64 (a := (m : Int)) (b := 2) (r := ((m / 2 : Nat) : Int)) (by omega) (by rw [Int.tdiv_eq_ediv_of_nonneg (by omega), IntKind.wrap_i64]; omega)
    go_enter Tryd.func30, Tryd.ntmps30
    go_wp2_with fail
    refine H.mono ?_
    rintro e w1 ⟨rfl, rfl⟩
    go_wp2_with (first
      | (refine Held.wpList_run (w := w) rfl (v := .int .i64 (m : Int)) (Held.y_int (S := fun _ => True) rfl rfl rfl (Held.run_mul 3 .i64 hmul) _ trivial) ?_)
      | (refine Held.wpList_run (w := w) rfl (v := .int .i64 ((m / 2 : Nat) : Int)) (Held.y_int (S := fun _ => True) rfl rfl rfl hq _ trivial) ?_))
    go_ret
    exact ⟨rfl, rfl⟩
  · have hs : stg n = 0 := by
      rcases stg_is n with e | e
      · exact absurd (by rw [e]; exact padV_pow (stg_le n)) c3
      · exact e.1
    rw [show powV n = -1 by unfold powV; rw [if_neg c3]] at H
    rw [hs]
    go_enter Tryd.func30, Tryd.ntmps30
    go_wp2_with fail
    refine H.mono ?_
    rintro e w1 ⟨rfl, rfl⟩
    go_wp2_with fail
    go_ret
    exact ⟨rfl, rfl⟩
end Go.Proofs.YtipmfficjomcoaaDoor.Bi
namespace Go.Proofs.YtipmfficjomcoaaDoor.Bi
open Go.RowKit Go.Shelf Go.Proofs.YtipmfficjomcoaaDoor Mem Held Help Go.Proofs.YtipmfficjomcoaaDoor.Range
attribute [local go_sem] Oper.semAt_some
attribute [local irreducible] wpList wpListIn Calls
set_option maxRecDepth 100000 in
set_option maxHeartbeats 4000000 in
theorem rof_any (n r : Int) (s t : Nat) (ok : Bool) (w : World) (h0 : -9223372036854775808 ≤ n) (h1 : n ≤ 9223372036854775807) (hF : Found (stg n) r s t ok) :
    Calls Tryd.prog 71 #[.int .i64 n, .int .i64 r] w fun e w' => e = .returned (.tuple #[.int .i64 (s : Int), .int .i64 (t : Int)]) ∧ w = w' := by
  have H := rrounds_any n w h0 h1
  have h16 := stg_le n
  have htl := tri_le h16
  generalize stg n = S at *
  rcases hF with ⟨hok, ha⟩ | ⟨hok, rfl, rfl, hno⟩
  · obtain ⟨hr0, hr1⟩ := ha.lt
    obtain ⟨t1, ts, sS, he⟩ := ha
    obtain ⟨q0, rfl⟩ : ∃ q, s = q + 1 := ⟨s - 1, by omega⟩
    simp only [Nat.add_sub_cancel] at he
    have HE := Lib.hid he
    have HM := Lib.hid (fun a b (h : a ≤ b) => tri_mono h)
    have HTS := Lib.hid tri_succ
    have hnr : ¬ (tri S : Int) ≤ r := by omega
    generalize tri S = T at *
    clear he
    go_enter Tryd.func71, Tryd.ntmps71
    go_wp2_with fail
    refine H.mono ?_
    rintro e w1 ⟨rfl, rfl⟩
    go_wp2_with fail
    go_loopw [1, 6] (fun rv sv wr => ∃ q u : Nat, rv = .int .i64 (u : Int) ∧ Hid (r = ((tri q + u : Nat) : Int)) ∧ sv = .int .i64 ((q : Int) + 1) ∧ q ≤ q0 ∧ u ≤ 200 ∧ w = wr) (fun rv _ _ => (intOf rv).toNat)
    case atStart => exact ⟨0, r.toNat, by rw [show ((r.toNat : Nat) : Int) = r by omega], Lib.hid (by rw [tri_zero]; omega), rfl, by omega, by omega, rfl⟩
    case round =>
      obtain ⟨q, u, rfl, hu, rfl, hq, hu2, rfl⟩ := hrel
      by_cases hge : q + 1 ≤ u
      · have hge' : (q : Int) + 1 ≤ (u : Int) := by omega
        have hq1 : q + 1 ≤ q0 := by
          rcases Nat.lt_or_ge q q0 with c | c
          · omega
          · have e1 : q = q0 := by omega
            have e2 := HE.out
            have e3 := hu.out
            rw [e1] at e3 hge
            omega
        go_wp2_with fail
        go_roundw
        case rel => exact ⟨q + 1, u - (q + 1), by go_num, Lib.hid (by rw [hu.out, HTS.out]; omega), by go_num, hq1, by omega, trivial⟩
        case measure => simp [intOf]; omega
      · have hge' : ¬ (q : Int) + 1 ≤ (u : Int) := by omega
        have hqq : q = q0 := by
          rcases Nat.lt_or_ge q q0 with c | c
          · have e1 := HM.out (q + 1) q0 (by omega)
            rw [HTS.out] at e1
            have e2 := HE.out
            have e3 := hu.out
            omega
          · omega
        have htt : (q : Int) + 1 - (u : Int) = (t : Int) := by
          have e2 := HE.out
          have e3 := hu.out
          rw [hqq] at e3 ⊢
          omega
        subst hqq
        have HT := Lib.hid htt
        clear htt
        go_wp2_with fail
        go_ret2
        refine ⟨?_, rfl⟩
        simp [HT.out]
  · by_cases hr : r < 0
    · go_enter Tryd.func71, Tryd.ntmps71
      go_wp2_with fail
      go_ret2
      exact ⟨rfl, rfl⟩
    · have hnr : (tri S : Int) ≤ r := by omega
      generalize tri S = T at *
      clear hno
      go_enter Tryd.func71, Tryd.ntmps71
      go_wp2_with fail
      refine H.mono ?_
      rintro e w1 ⟨rfl, rfl⟩
      go_wp2_with fail
      go_ret2
      exact ⟨rfl, rfl⟩
section
variable {P : Program} {S : World → Prop} {ρ : Operand → Value} {o : Oper} {t ty : TypeId} {x y : Operand} {k k' : IntKind} {r : Int}
theorem y_shl (a n : Int) (ho : o.op = .binOp .shl t x y ty) (hx : ρ x = .int k a) (hy : ρ y = .int k' n) (hr : ∀ w : World, (binOp .shl t (.int k a) (.int k' n)).run P w = .ok (.int k r) w) : ∀ w, S w → (execOp ρ o).run P w = .ok (.value (.int k r)) w :=
  Held.y_bin ho hx hy (fun w => by simp [eqGuard]) hr
theorem y_quo (a b : Int) (ho : o.op = .binOp .quo t x y ty) (hx : ρ x = .int k a) (hy : ρ y = .int k b) (hr : ∀ w : World, (binOp .quo t (.int k a) (.int k b)).run P w = .ok (.int k r) w) : ∀ w, S w → (execOp ρ o).run P w = .ok (.value (.int k r)) w := Held.y_int ho hx hy hr
theorem y_rem (a b : Int) (ho : o.op = .binOp .rem t x y ty) (hx : ρ x = .int k a) (hy : ρ y = .int k b) (hr : ∀ w : World, (binOp .rem t (.int k a) (.int k b)).run P w = .ok (.int k r) w) : ∀ w, S w → (execOp ρ o).run P w = .ok (.value (.int k r)) w := Held.y_int ho hx hy hr
theorem y_sub (a b : Int) (ho : o.op = .binOp .sub t x y ty) (hx : ρ x = .int k a) (hy : ρ y = .int k b) (hr : k.wrap (a - b) = r) : ∀ w, S w → (execOp ρ o).run P w = .ok (.value (.int k r)) w := Held.y_int ho hx hy (Held.run_sub t k hr)
end
theorem quo_of {a d : Int} (ha : 0 ≤ a) (hd : 1 ≤ d) (ha' : a < 9223372036854775808) : IntKind.i64.wrap (a.tdiv d) = a / d ∧ 0 ≤ a / d := by
  have h0 : 0 ≤ a / d := Int.ediv_nonneg ha (by omega)
  have h1 := Int.ediv_le_self d ha
  rw [Int.tdiv_eq_ediv_of_nonneg ha, IntKind.wrap_i64]
  omega
theorem rem_of {a : Int} (ha : 0 ≤ a) : a.tmod 2 = a % 2 := Int.tmod_eq_emod_of_nonneg ha
set_option maxRecDepth 100000 in
set_option maxHeartbeats 4000000 in
theorem rup_any (n r a : Int) (s t : Nat) (ok : Bool) (w : World) (h0 : -9223372036854775808 ≤ n) (h1 : n ≤ 9223372036854775807) (ha0 : -9223372036854775808 ≤ a) (ha1 : a ≤ 9223372036854775807) (hF : Found (stg n) r s t ok) :
    Calls Tryd.prog 60 #[.int .i64 n, .int .i64 r, .int .i64 a] w fun e w' => e = .returned (.bool (upV n s t ok a)) ∧ w = w' := by
  have H := rof_any n r s t ok w h0 h1 hF
  have ht := hF.t1 (stg_le n)
  have hz : ok = false → s = 0 := fun h => by
    rcases hF with ⟨h2, _⟩ | ⟨_, h2, _⟩
    · rw [h] at h2; cases h2
    · exact h2
  clear hF
  cases ok with
  | false =>
    have hv : upV n s t false a = false := by simp [upV]
    rw [hv]
    obtain rfl := hz rfl
    go_enter Tryd.func60, Tryd.ntmps60
    go_wp2_with fail
    refine H.mono ?_
    rintro e w1 ⟨rfl, rfl⟩
    go_wp2_with fail
    go_ret
    exact ⟨rfl, rfl⟩
  | true =>
    obtain ⟨t1, t2, t3⟩ := ht rfl
    clear hz ht
    have hs0 : ¬ (s : Int) = 0 := by omega
    by_cases c0 : a < 0
    · have hv : upV n s t true a = false := by simp [upV]; intro h; omega
      rw [hv]
      go_enter Tryd.func60, Tryd.ntmps60
      go_wp2_with fail
      refine H.mono ?_
      rintro e w1 ⟨rfl, rfl⟩
      go_wp2_with fail
      go_ret
      exact ⟨rfl, rfl⟩
    by_cases c1 : n ≤ a
    · have hv : upV n s t true a = false := by simp [upV]; intro h h'; omega
      rw [hv]
      go_enter Tryd.func60, Tryd.ntmps60
      go_wp2_with fail
      refine H.mono ?_
      rintro e w1 ⟨rfl, rfl⟩
      go_wp2_with fail
      go_ret
      exact ⟨rfl, rfl⟩
    have hv : upV n s t true a = (decide (a / 2 ^ (t - 1) % 2 = 0) && decide (a / 2 ^ s % 2 = 0)) := by
      have e1 : decide (0 ≤ a) = true := by simp; omega
      have e2 : decide (a < n) = true := by simp; omega
      unfold upV
      rw [e1, e2]
      simp
    have sh := fun (k : Nat) (hk : k ≤ 16) (W : World) => show (binOp .shl 3 (.int .i64 1) (.int .u64 (k : Int))).run Tryd.prog W = .ok (.int .i64 (2 ^ k)) W by
      have h := Rc.run_shl_ (P := Tryd.prog) 3 .i64 .u64 (a := 1) k (by show k ≤ 64; omega) W
      have p1 := two_pos k
      have p2 := two_16 hk
      rw [show (1 : Int) * 2 ^ k = 2 ^ k by omega, show IntKind.i64.wrap (2 ^ k) = 2 ^ k by rw [IntKind.wrap_i64]; omega] at h
      exact h
    have s1 := sh (t - 1) (by omega)
    have s2 := sh s t3
    have p1 := two_pos (t - 1)
    have p2 := two_pos s
    have hsub : IntKind.i64.wrap ((t : Int) - 1) = ((t - 1 : Nat) : Int) := by rw [IntKind.wrap_i64]; omega
    have hc1 : IntKind.u64.wrap ((t - 1 : Nat) : Int) = ((t - 1 : Nat) : Int) := by rw [IntKind.wrap_u64]; omega
    have hc2 : IntKind.u64.wrap (s : Int) = (s : Int) := by rw [IntKind.wrap_u64]; omega
    obtain ⟨qa, qb⟩ := quo_of (show 0 ≤ a by omega) p1 (by omega)
    obtain ⟨qc, qd⟩ := quo_of (show 0 ≤ a by omega) p2 (by omega)
    obtain ⟨d1, hd1⟩ : ∃ d : Int, 2 ^ (t - 1) = d := ⟨_, rfl⟩
    obtain ⟨d2, hd2⟩ : ∃ d : Int, 2 ^ s = d := ⟨_, rfl⟩
    rw [hd1] at s1 p1 qa qb hv
    rw [hd2] at s2 p2 qc qd hv
    have ra := rem_of qb
    have rb := rem_of qd
    generalize a / d1 = q1 at *
    generalize a / d2 = q2 at *
    generalize hr1 : q1 % 2 = r1 at *
    generalize hr2 : q2 % 2 = r2 at *
    have hq1 := fun W => Held.run_quo (P := Tryd.prog) 3 .i64 (a := a) (b := d1) (r := q1) (by omega) qa W
    have hq2 := fun W => Held.run_quo (P := Tryd.prog) 3 .i64 (a := a) (b := d2) (r := q2) (by omega) qc W
    have hm1 := fun W => Held.run_rem (P := Tryd.prog) 3 .i64 (a := q1) (b := 2) (r := r1) (by omega) ra W
    have hm2 := fun W => Held.run_rem (P := Tryd.prog) 3 .i64 (a := q2) (b := 2) (r := r2) (by omega) rb W
    have hb0 : ((s : Int) == 0) = false := by simp; omega
    have hb1 : decide (a < 0) = false := by simp; omega
    have hb2 : decide (n ≤ a) = false := by simp; omega
    rw [hv]
    clear hr1 hr2 qa qb qc qd ra rb hd1 hd2 hv sh
    by_cases hz : r1 = 0
    · have hzd : decide (r1 = 0) = true := by simp [hz]
      have hne : (r1 != 0) = false := by simp [hz]
      rw [hzd, Bool.true_and]
      have HZ := Lib.hid hz
      clear hz hzd
      go_enter Tryd.func60, Tryd.ntmps60
      go_wp2_with fail
      refine H.mono ?_
      rintro e w1 ⟨rfl, rfl⟩
      go_wp2_with (first
        | (refine Held.wpList_run (w := w) rfl (v := .int .i64 ((t - 1 : Nat) : Int)) (y_sub (S := fun _ => True) (t : Int) 1 rfl rfl rfl hsub _ trivial) ?_; simp only [Act.put, Z1, Z2, Z3])
        | (refine Held.wpList_run (w := w) rfl (v := .int .u64 ((t - 1 : Nat) : Int)) (Held.y_convert (S := fun _ => True) rfl rfl (by kernel_rfl) Tryd.underlying37 hc1 _ trivial) ?_; simp only [Act.put, Z1, Z2, Z3])
        | (refine Held.wpList_run (w := w) rfl (v := .int .u64 (s : Int)) (Held.y_convert (S := fun _ => True) rfl rfl (by kernel_rfl) Tryd.underlying37 hc2 _ trivial) ?_; simp only [Act.put, Z1, Z2, Z3])
        | (refine Held.wpList_run (w := w) rfl (v := .int .i64 d1) (y_shl (S := fun _ => True) 1 ((t - 1 : Nat) : Int) rfl rfl rfl s1 _ trivial) ?_; simp only [Act.put, Z1, Z2, Z3])
        | (refine Held.wpList_run (w := w) rfl (v := .int .i64 d2) (y_shl (S := fun _ => True) 1 (s : Int) rfl rfl rfl s2 _ trivial) ?_; simp only [Act.put, Z1, Z2, Z3])
        | (refine Held.wpList_run (w := w) rfl (v := .int .i64 q1) (y_quo (S := fun _ => True) a d1 rfl rfl rfl hq1 _ trivial) ?_; simp only [Act.put, Z1, Z2, Z3])
        | (refine Held.wpList_run (w := w) rfl (v := .int .i64 q2) (y_quo (S := fun _ => True) a d2 rfl rfl rfl hq2 _ trivial) ?_; simp only [Act.put, Z1, Z2, Z3])
        | (refine Held.wpList_run (w := w) rfl (v := .int .i64 r1) (y_rem (S := fun _ => True) q1 2 rfl rfl rfl hm1 _ trivial) ?_; simp only [Act.put, Z1, Z2, Z3])
        | (refine Held.wpList_run (w := w) rfl (v := .int .i64 r2) (y_rem (S := fun _ => True) q2 2 rfl rfl rfl hm2 _ trivial) ?_; simp only [Act.put, Z1, Z2, Z3]))
      go_ret
      exact ⟨Mem.ret_bool rfl, rfl⟩
    · have hzd : decide (r1 = 0) = false := by simp [hz]
      have hne : (r1 != 0) = true := by simp [hz]
      rw [hzd, Bool.false_and]
      clear hzd
      go_enter Tryd.func60, Tryd.ntmps60
      go_wp2_with fail
      refine H.mono ?_
      rintro e w1 ⟨rfl, rfl⟩
      go_wp2_with (first
        | (refine Held.wpList_run (w := w) rfl (v := .int .i64 ((t - 1 : Nat) : Int)) (y_sub (S := fun _ => True) (t : Int) 1 rfl rfl rfl hsub _ trivial) ?_; simp only [Act.put, Z1, Z2, Z3])
        | (refine Held.wpList_run (w := w) rfl (v := .int .u64 ((t - 1 : Nat) : Int)) (Held.y_convert (S := fun _ => True) rfl rfl (by kernel_rfl) Tryd.underlying37 hc1 _ trivial) ?_; simp only [Act.put, Z1, Z2, Z3])
        | (refine Held.wpList_run (w := w) rfl (v := .int .i64 d1) (y_shl (S := fun _ => True) 1 ((t - 1 : Nat) : Int) rfl rfl rfl s1 _ trivial) ?_; simp only [Act.put, Z1, Z2, Z3])
        | (refine Held.wpList_run (w := w) rfl (v := .int .i64 q1) (y_quo (S := fun _ => True) a d1 rfl rfl rfl hq1 _ trivial) ?_; simp only [Act.put, Z1, Z2, Z3])
        | (refine Held.wpList_run (w := w) rfl (v := .int .i64 r1) (y_rem (S := fun _ => True) q1 2 rfl rfl rfl hm1 _ trivial) ?_; simp only [Act.put, Z1, Z2, Z3]))
      go_ret
      exact ⟨rfl, rfl⟩
end Go.Proofs.YtipmfficjomcoaaDoor.Bi
namespace Go.Proofs.YtipmfficjomcoaaDoor.Bi
open Go.RowKit Go.Shelf Go.Proofs.YtipmfficjomcoaaDoor Mem Held Help Go.Proofs.YtipmfficjomcoaaDoor.Range
attribute [local go_sem] Oper.semAt_some
attribute [local irreducible] wpList wpListIn Calls
set_option maxRecDepth 100000 in
set_option maxHeartbeats 4000000 in
theorem rround_own (n r : Int) (s t : Nat) (ok : Bool) (w : World) (h0 : -9223372036854775808 ≤ n) (h1 : n ≤ 9223372036854775807) (hF : Found (stg n) r s t ok) :
    Calls Tryd.prog 59 #[.int .i64 n, .int .i64 r] w fun e w' => ∃ A c, e = .returned (.tuple #[.slice A (pairsOf n t ok).length c, .int .i64 (if ok then 2 ^ (t - 1) else 0)]) ∧ Mem.Own w' w.heap.size 3 .i64 (.slice A (pairsOf n t ok).length c) (xsOf (pairsOf n t ok)) ∧ Below w.heap.size w w' := by
  have H := rof_any n r s t ok w h0 h1 hF
  have hI := hF.is
  have hz : ok = false → s = 0 := fun h => by
    rcases hF with ⟨h2, _⟩ | ⟨_, h2, _⟩
    · rw [h] at h2; cases h2
    · exact h2
  clear hF h0 h1
  cases ok with
  | false =>
    obtain rfl := hz rfl
    have hp : pairsOf n t false = [] := rfl
    rw [hp]
    go_enter Tryd.func59, Tryd.ntmps59
    go_wp2_with fail
    refine H.mono ?_
    rintro e w1 ⟨rfl, rfl⟩
    go_wp2_with fail
    go_ret2
    exact ⟨none, 0, rfl, Mem.Own.nil _ _ _ _, Below.refl _ _⟩
  | true =>
    obtain ⟨hn, t1, t2, t3, t4⟩ := hI rfl
    have hd := two_nat (t - 1)
    have hd1 := two_pos (t - 1)
    have hd2 := two_16 (show t - 1 ≤ 16 by omega)
    obtain ⟨M, hM⟩ : ∃ M : Nat, 2 ^ stg n = M := ⟨_, rfl⟩
    have hM16 : M ≤ 65536 := by rw [← hM]; exact Nat.pow_le_pow_right (by omega) t4
    rw [hM] at hn
    obtain ⟨dN, hdN⟩ : ∃ dN : Nat, 2 ^ (t - 1) = dN := ⟨_, rfl⟩
    have HP := Lib.hid (show pairsOf n t true = Net.firsts dN M by unfold pairsOf; rw [if_pos rfl, hdN, hn]; rfl)
    rw [hdN] at hd
    have hsh := fun W : World => Rc.run_shl_ (P := Tryd.prog) 3 .i64 .u64 (a := 1) (t - 1) (by show t - 1 ≤ 64; omega) W
    rw [show (1 : Int) * 2 ^ (t - 1) = 2 ^ (t - 1) by omega, hd] at hsh
    rw [hd] at hd1 hd2
    rw [show IntKind.i64.wrap (dN : Int) = (dN : Int) by rw [IntKind.wrap_i64]; omega] at hsh
    have hsub : IntKind.i64.wrap ((t : Int) - 1) = ((t - 1 : Nat) : Int) := by rw [IntKind.wrap_i64]; omega
    have hc1 : IntKind.u64.wrap ((t - 1 : Nat) : Int) = ((t - 1 : Nat) : Int) := by rw [IntKind.wrap_u64]; omega
    have hs0 : ¬ (s : Int) = 0 := by omega
    have HFS := Lib.hid (fun k => show xsOf (Net.firsts dN (k + 1)) = xsOf (Net.firsts dN k) ++ (if k / dN % 2 = 0 then [(k : Int)] else []) by rw [Net.firsts_succ]; simp only [xsOf, List.map_append]; split <;> simp)
    have HFL := Lib.hid (fun k => show (xsOf (Net.firsts dN k)).length ≤ k by simp only [xsOf, List.length_map]; exact firsts_length_le dN k)
    have HEL := Lib.hid (show (xsOf (Net.firsts dN M)).length = (Net.firsts dN M).length by simp [xsOf])
    have hdi : (if true = true then (2 : Int) ^ (t - 1) else 0) = (dN : Int) := by rw [if_pos rfl, hd]
    rw [HP.out, hdi]
    subst hn
    clear hI hz hd hdi hdN hM HP t3 t4 t2
    go_enter Tryd.func59, Tryd.ntmps59
    go_wp2_with fail
    refine H.mono ?_
    rintro e w1 ⟨rfl, rfl⟩
    clear H
    go_wp2_with (first
      | (refine Held.wpList_run (w := w) rfl (v := .int .i64 ((t - 1 : Nat) : Int)) (y_sub (S := fun _ => True) (t : Int) 1 rfl rfl rfl hsub _ trivial) ?_)
      | (refine Held.wpList_run (w := w) rfl (v := .int .u64 ((t - 1 : Nat) : Int)) (Held.y_convert (S := fun _ => True) rfl rfl (by kernel_rfl) Tryd.underlying37 hc1 _ trivial) ?_)
      | (refine Held.wpList_run (w := w) rfl (v := .int .i64 (dN : Int)) (y_shl (S := fun _ => True) 1 ((t - 1 : Nat) : Int) rfl rfl rfl hsh _ trivial) ?_))
    clear hsh hsub hc1
    go_loopw [9, 10] (fun v i wr => ∃ k : Nat, k ≤ M ∧ i = .int .i64 k ∧ Mem.Own wr w.heap.size 3 .i64 v (xsOf (Net.firsts dN k)) ∧ Below w.heap.size w wr) (fun _ i _ => M - (intOf i).toNat)
    case atStart => exact ⟨0, by omega, rfl, Mem.Own.nil _ _ _ _, Below.refl _ _⟩
    case round =>
      obtain ⟨k, hk, rfl, hown, hb⟩ := hrel
      obtain ⟨A1, c1, rfl, _, _, _⟩ := hown.form
      have hsz := hb.size
      by_cases hlt : k < M
      · have hlt' : (k : Int) < (M : Int) := by omega
        obtain ⟨m, hm⟩ : ∃ m, (xsOf (Net.firsts dN k)).length = m := ⟨_, rfl⟩
        have hm2 := HFL.out k
        have HST := Lib.hid (HFS.out k)
        rw [hm] at hown hm2 ⊢
        have HM := Lib.hid hm
        obtain ⟨qa, qb⟩ := quo_of (show 0 ≤ (k : Int) by omega) hd1 (by omega)
        have rb := rem_of qb
        have hbit : ((k : Int) / (dN : Int) % 2 = 0) ↔ k / dN % 2 = 0 := by rw [← Int.natCast_ediv]; omega
        have hq := fun W => Held.run_quo (P := Tryd.prog) 3 .i64 (a := (k : Int)) (b := (dN : Int)) (r := (k : Int) / dN) (by omega) qa W
        have hr := fun W => Held.run_rem (P := Tryd.prog) 3 .i64 (a := (k : Int) / dN) (b := 2) (r := (k : Int) / dN % 2) (by omega) rb W
        generalize (k : Int) / dN = q at *
        generalize q % 2 = z at *
        have wk : ∀ x ∈ [(k : Int)], (Lit.int .i64 x).wf = true := by intro x hx; rw [List.mem_singleton] at hx; rw [hx]; exact wf_i64 (by omega) (by omega)
        clear qa qb rb hm
        by_cases hz : z = 0
        · have hst := HST.out
          rw [if_pos (hbit.1 hz)] at hst
          have HS2 := Lib.hid hst
          subst hz
          clear hst hbit
          go_wp2_with (first
            | (refine Held.wpList_run (w := wr) rfl (v := .int .i64 q) (y_quo (S := fun _ => True) (k : Int) (dN : Int) rfl rfl rfl hq _ trivial) ?_)
            | (refine Held.wpList_run (w := wr) rfl (v := .int .i64 0) (y_rem (S := fun _ => True) q 2 rfl rfl rfl hr _ trivial) ?_)
            | (refine Held.wpList_build_row (w := wr) rfl 30 3 1 _ rfl .i64 8 [(k : Int)] Tryd.underlying30 info_int (by simp [Act.eval]) rfl (by omega) (by omega) wk ?_; intro w3 r3 g3 z3; have o3 := hown.kept g3 (by cases (Value.slice A1 m c1).ownBlock <;> simp); have i3 : Ints w3 .i64 w3.heap.size (some ⟨wr.heap.size, 0, none⟩) 1 [(k : Int)] := r3.ints (n := 1) (by simp))
            | (at_builtin; refine wpList_append_ints w3 rfl _ _ 30 rfl w.heap.size 3 .i64 8 Tryd.underlying30 info_int (.slice A1 m c1) _ rfl o3 w3.heap.size (some ⟨wr.heap.size, 0, none⟩) 1 1 [(k : Int)] rfl i3 (by rw [HM.out]; omega) (by omega) (by have := g3.size; omega) ?_; intro v4 w4 o4 g4 t4))
          obtain ⟨A4, c4, rfl, _, _, _⟩ := o4.form
          go_roundw
          case rel => exact ⟨k + 1, by omega, by go_num, by rw [HS2.out]; exact o4, (hb.grown g3 hb.size (by simp)).grown g4 (by have := g3.size; have := hb.size; omega) (fun r e => (o3.2.lt r e).1)⟩
          case measure => simp [intOf]; omega
        · have hst := HST.out
          rw [if_neg (fun h => hz (hbit.2 h)), List.append_nil] at hst
          have HS2 := Lib.hid hst
          have hzb : (z == 0) = false := by simpa using hz
          clear hst hbit
          go_wp2_with (first
            | (refine Held.wpList_run (w := wr) rfl (v := .int .i64 q) (y_quo (S := fun _ => True) (k : Int) (dN : Int) rfl rfl rfl hq _ trivial) ?_)
            | (refine Held.wpList_run (w := wr) rfl (v := .int .i64 z) (y_rem (S := fun _ => True) q 2 rfl rfl rfl hr _ trivial) ?_))
          go_roundw
          case rel => exact ⟨k + 1, by omega, by go_num, by rw [HS2.out]; exact hown, hb⟩
          case measure => simp [intOf]; omega
      · have hkM : k = M := by omega
        subst hkM
        rw [HEL.out] at hown ⊢
        go_wp2_with fail
        go_ret2
        exact ⟨A1, c1, rfl, hown, hb⟩
end Go.Proofs.YtipmfficjomcoaaDoor.Bi
namespace Go.Proofs.YtipmfficjomcoaaDoor.Bi
open Go.RowKit Go.Proofs.YtipmfficjomcoaaDoor Mem
set_option maxRecDepth 100000
def biLaid : List (String × DataW Unit) := [("math/bits.deBruijn32tab", Rows.laid_math_bits_deBruijn32tab), ("math/bits.deBruijn64tab", Rows.laid_math_bits_deBruijn64tab)]
theorem bits_of_laid {w : World} (h : laidMetH Tryd.prog biLaid w) : TzT w := by
  rw [MakeChecks.laidMetH_plain _ _ _ (by kernel_rfl)] at h
  have h2 : Lib.TabIs Tryd.prog w "math/bits.deBruijn64tab" .u8 tzT := Lib.tabIs_of_head (e := 5) (n := 64) (zs := tzT) (t := 102) (g := 1) (by kernel_rfl) (by kernel_rfl) Tryd.underlying102 Tryd.underlying5 (by kernel_rfl) (by kernel_rfl) (laidMet.tail h)
  exact Po.tabK_of_var (by kernel_rfl) h2
end Go.Proofs.YtipmfficjomcoaaDoor.Bi
namespace Go.Proofs.YtipmfficjomcoaaDoor.Sh
open Go.RowKit Go.Shelf Mem Held Sl
def behP (first phase r a : Int) : Sp := if r = 0 then ⟨first, 0, a⟩ else ⟨phase, r, a⟩
def readsT (T : Int) (t : Tk) : List Sp :=
  if t.kd = 1 then [⟨0, 0, t.a⟩]
  else if t.kd = 3 then [behP 1 2 (t.rd - 1) t.a, behP 1 2 (t.rd - 1) t.b]
  else if t.kd = 4 then behP 1 2 T t.a :: (if 0 < t.a then [⟨4, 0, t.a - 1⟩] else [])
  else if t.kd = 5 then [behP 3 5 (t.rd - 1) t.a, behP 3 5 (t.rd - 1) t.b]
  else []
def phasesT (kd : Int) : List Int := if kd = 1 ∨ kd = 2 then [1] else if kd = 3 then [2] else if kd = 4 then [3, 4] else if kd = 5 then [5] else []
def addrsT (K : Int) (t : Tk) : List Int := if t.kd = 1 then (List.range K.toNat).map (fun i : Nat => K * t.a + (i : Int)) else if t.kd = 3 ∨ t.kd = 5 then [t.a, t.b] else [t.a]
def writesT (K : Int) (t : Tk) : List Sp := (phasesT t.kd).flatMap fun ph => (addrsT K t).map fun ad => ⟨ph, t.rd, ad⟩
def mkF (K : Int) (s : Sp) : Nat → List Tk → Int
  | _, [] => -1
  | n, t :: l => if s ∈ writesT K t then (n : Int) else mkF K s (n + 1) l
def makesT (K : Int) (l : List Tk) (s : Sp) : Int := mkF K s 0 l
theorem mkF_some (K : Int) (s : Sp) : ∀ (l : List Tk) (c i : Nat) (t : Tk), l[i]? = some t → s ∈ writesT K t → (∀ (j : Nat) (u : Tk), j < i → l[j]? = some u → s ∉ writesT K u) → mkF K s c l = ((c + i : Nat) : Int)
  | [], _, _, _, h, _, _ => by simp at h
  | t :: l, c, 0, u, h, hs, _ => by
    simp at h
    subst h
    unfold mkF
    rw [if_pos hs]
    simp
  | t :: l, c, i + 1, u, h, hs, hn => by
    unfold mkF
    rw [if_neg (hn 0 t (by omega) (by simp)), mkF_some K s l (c + 1) i u (by simpa using h) hs (fun j v hj hv => hn (j + 1) v (by omega) (by simpa using hv))]
    congr 1
    omega
theorem mkF_none (K : Int) (s : Sp) : ∀ (l : List Tk) (c : Nat), (∀ (j : Nat) (u : Tk), l[j]? = some u → s ∉ writesT K u) → mkF K s c l = -1
  | [], _, _ => rfl
  | t :: l, c, hn => by
    unfold mkF
    rw [if_neg (hn 0 t (by simp)), mkF_none K s l (c + 1) (fun j v hv => hn (j + 1) v (by simpa using hv))]
theorem makesT_some {K : Int} {s : Sp} {l : List Tk} {i : Nat} {t : Tk} (h : l[i]? = some t) (hs : s ∈ writesT K t) (hn : ∀ (j : Nat) (u : Tk), j < i → l[j]? = some u → s ∉ writesT K u) : makesT K l s = (i : Int) := by
  have := mkF_some K s l 0 i t h hs hn
  rwa [Nat.zero_add] at this
theorem makesT_none {K : Int} {s : Sp} {l : List Tk} (hn : ∀ (j : Nat) (u : Tk), l[j]? = some u → s ∉ writesT K u) : makesT K l s = -1 := mkF_none K s l 0 hn
theorem mkF_le (K : Int) (s : Sp) : ∀ (l : List Tk) (c : Nat), -1 ≤ mkF K s c l ∧ mkF K s c l < ((c + l.length : Nat) : Int)
  | [], c => by unfold mkF; exact ⟨by omega, by omega⟩
  | t :: l, c => by
    have := mkF_le K s l (c + 1)
    unfold mkF
    simp only [List.length_cons]
    split <;> omega
theorem makesT_le (K : Int) (l : List Tk) (s : Sp) : -1 ≤ makesT K l s ∧ makesT K l s < (l.length : Int) := by
  have := mkF_le K s l 0
  unfold makesT
  omega
def thereT (K : Int) (l : List Tk) (done : List Bool) (s : Sp) : Bool := decide (makesT K l s < 0) || (decide (makesT K l s < (done.length : Int)) && done.getD (makesT K l s).toNat false)
def readyT (K : Int) (l : List Tk) (T : Int) (done : List Bool) (t : Option Tk) : Bool := match t with
  | none => false
  | some t => (readsT T t).all (thereT K l done)
def lastT (M : Nat) (T : Int) : List Sp := (List.range M).map fun a : Nat => behP 3 5 T (a : Int)
def readsO (T : Int) (t : Option Tk) : List Sp := match t with
  | none => []
  | some t => readsT T t
def writesO (K : Int) (t : Option Tk) : List Sp := match t with
  | none => []
  | some t => writesT K t
structure TkB (t : Tk) : Prop where
  k1 : 1 ≤ t.kd
  k5 : t.kd ≤ 5
  r0 : 0 ≤ t.rd
  r15 : t.rd ≤ 15
  a0 : 0 ≤ t.a
  a99 : t.a ≤ 100
  b0 : 0 ≤ t.b
  b99 : t.b ≤ 100000
  one : t.kd = 1 ∨ t.kd = 2 ∨ t.kd = 4 → t.rd = 0
  net : t.kd = 3 ∨ t.kd = 5 → 1 ≤ t.rd
theorem TkB.wf {t : Tk} (h : TkB t) : t.wf := by
  obtain ⟨h1, h2, h3, h4, h5, h6, h7, h8, _, _⟩ := h
  refine ⟨?_, ?_, ?_, ?_⟩ <;> simp [Lit.wf, IntKind.min, IntKind.max, IntKind.signed, IntKind.bits] <;> omega
section
variable {K : Int} {I mp M T : Nat}
theorem one_b {kd : Int} (h : kd = 1 ∨ kd = 2 ∨ kd = 4) {a : Nat} (ha : a ≤ 100) : TkB (oneT kd a) := by
  refine ⟨?_, ?_, ?_, ?_, ?_, ?_, ?_, ?_, fun _ => rfl, ?_⟩ <;> simp only [oneT] <;> omega
theorem sorts_b (h : JobP K I mp M T) {kd : Int} (hk : kd = 3 ∨ kd = 5) {t : Tk} (ht : t ∈ sortsT kd M T) : TkB t := by
  unfold sortsT roundT at ht
  obtain ⟨r, hr, ht⟩ := List.mem_flatMap.1 ht
  obtain ⟨a, ha, rfl⟩ := List.mem_map.1 ht
  have hr := List.mem_range.1 hr
  have haM : a < M := by
    unfold Net.firsts at ha
    have := (List.mem_filter.1 ha).1
    simpa using this
  have h15 := h.t15
  have h32 := h.m32
  have hs := Bi.two_16 (show (stT r).2 - 1 ≤ 16 by
    have := (h.round hr).is rfl
    omega)
  have hp := Bi.two_pos ((stT r).2 - 1)
  refine ⟨?_, ?_, ?_, ?_, ?_, ?_, ?_, ?_, ?_, ?_⟩ <;> simp only [pairT] <;> omega
theorem tasks_b (h : JobP K I mp M T) {t : Tk} (ht : t ∈ tasksT I mp M T) : TkB t := by
  have h1 := h.le
  have h2 := h.m32
  have h3 := h.i32
  unfold tasksT at ht
  simp only [List.mem_append] at ht
  rcases ht with (((ht | ht) | ht) | ht) | ht
  · obtain ⟨a, ha, rfl⟩ := List.mem_map.1 ht
    have := List.mem_range.1 ha
    exact one_b (.inl rfl) (by omega)
  · obtain ⟨a, ha, rfl⟩ := List.mem_map.1 ht
    have := List.mem_range.1 ha
    exact one_b (.inr (.inl rfl)) (by omega)
  · exact sorts_b h (.inl rfl) ht
  · obtain ⟨a, ha, rfl⟩ := List.mem_map.1 ht
    have := List.mem_range.1 ha
    exact one_b (.inr (.inr rfl)) (by omega)
  · exact sorts_b h (.inr rfl) ht
theorem tasks_bi (h : JobP K I mp M T) {i : Nat} {t : Tk} (ht : (tasksT I mp M T)[i]? = some t) : TkB t := tasks_b h (List.mem_of_getElem? ht)
end
theorem sp_mk {p r a : Int} (h1 : (Lit.int .i64 p).wf = true) (h2 : (Lit.int .i64 r).wf = true) (h3 : (Lit.int .i64 a).wf = true) : (⟨p, r, a⟩ : Sp).wf := ⟨h1, h2, h3⟩
theorem behP_wf {f p r a : Int} (hf : (Lit.int .i64 f).wf = true) (hp : (Lit.int .i64 p).wf = true) (hr : (Lit.int .i64 r).wf = true) (ha : (Lit.int .i64 a).wf = true) : (behP f p r a).wf := by
  unfold behP
  split
  · exact sp_mk hf (by decide) ha
  · exact sp_mk hp hr ha
theorem lit_wf {z : Int} (h0 : -9223372036854775808 ≤ z) (h1 : z ≤ 9223372036854775807) : (Lit.int .i64 z).wf = true := by simp [Lit.wf, IntKind.min, IntKind.max, IntKind.signed, IntKind.bits]; omega
theorem reads_wf {T : Int} {t : Tk} (h : TkB t) (h0 : 0 ≤ T) (h1 : T ≤ 15) : ∀ s ∈ readsT T t, s.wf := by
  obtain ⟨k1, k5, r0, r15, a0, a99, b0, b99, _, _⟩ := h
  have z : ∀ z : Int, -1 ≤ z → z ≤ 100000 → (Lit.int .i64 z).wf = true := fun z h h' => lit_wf (by omega) (by omega)
  intro s hs
  unfold readsT at hs
  split at hs
  · rw [List.mem_singleton] at hs
    subst hs
    exact sp_mk (z _ (by omega) (by omega)) (z _ (by omega) (by omega)) (z _ (by omega) (by omega))
  · split at hs
    · simp only [List.mem_cons, List.not_mem_nil, or_false] at hs
      rcases hs with rfl | rfl <;> exact behP_wf (z _ (by omega) (by omega)) (z _ (by omega) (by omega)) (z _ (by omega) (by omega)) (z _ (by omega) (by omega))
    · split at hs
      · rcases List.mem_cons.1 hs with rfl | hs
        · exact behP_wf (z _ (by omega) (by omega)) (z _ (by omega) (by omega)) (z _ (by omega) (by omega)) (z _ (by omega) (by omega))
        · split at hs
          · rw [List.mem_singleton] at hs
            subst hs
            exact sp_mk (z _ (by omega) (by omega)) (z _ (by omega) (by omega)) (z _ (by omega) (by omega))
          · simp at hs
      · split at hs
        · simp only [List.mem_cons, List.not_mem_nil, or_false] at hs
          rcases hs with rfl | rfl <;> exact behP_wf (z _ (by omega) (by omega)) (z _ (by omega) (by omega)) (z _ (by omega) (by omega)) (z _ (by omega) (by omega))
        · simp at hs
theorem last_wf {M : Nat} {T : Int} (h0 : 0 ≤ T) (h1 : T ≤ 15) (hM : M ≤ 32) : ∀ s ∈ lastT M T, s.wf := by
  intro s hs
  obtain ⟨a, ha, rfl⟩ := List.mem_map.1 hs
  have := List.mem_range.1 ha
  exact behP_wf (by decide) (by decide) (lit_wf (by omega) (by omega)) (lit_wf (by omega) (by omega))
theorem addrs_wf {K : Int} {t : Tk} (h : TkB t) (hK : t.kd = 1 → 0 ≤ K ∧ K ≤ 4) : ∀ z ∈ addrsT K t, (Lit.int .i64 z).wf = true := by
  obtain ⟨k1, k5, r0, r15, a0, a99, b0, b99, _, _⟩ := h
  intro z hz
  unfold addrsT at hz
  split at hz
  · rename_i hk
    obtain ⟨h0, h4⟩ := hK hk
    obtain ⟨i, hi, rfl⟩ := List.mem_map.1 hz
    have := List.mem_range.1 hi
    have h1 : 0 ≤ K * t.a := Int.mul_nonneg h0 a0
    have h2 : K * t.a ≤ 4 * 100 := Int.mul_le_mul h4 a99 a0 (by omega)
    exact lit_wf (by omega) (by omega)
  · split at hz
    · simp only [List.mem_cons, List.not_mem_nil, or_false] at hz
      rcases hz with rfl | rfl <;> exact lit_wf (by omega) (by omega)
    · rw [List.mem_singleton] at hz
      subst hz
      exact lit_wf (by omega) (by omega)
theorem phases_mem {kd z : Int} (hz : z ∈ phasesT kd) : 1 ≤ z ∧ z ≤ 5 := by
  unfold phasesT at hz
  split at hz
  · simp at hz; omega
  · split at hz
    · simp at hz; omega
    · split at hz
      · simp at hz; omega
      · split at hz
        · simp at hz; omega
        · simp at hz
theorem writes_wf {K : Int} {t : Tk} (h : TkB t) (hK : t.kd = 1 → 0 ≤ K ∧ K ≤ 4) : ∀ s ∈ writesT K t, s.wf := by
  intro s hs
  unfold writesT at hs
  obtain ⟨ph, hp, hs⟩ := List.mem_flatMap.1 hs
  obtain ⟨ad, ha, rfl⟩ := List.mem_map.1 hs
  have := phases_mem hp
  have h3 := h.r0
  have h4 := h.r15
  exact sp_mk (lit_wf (by omega) (by omega)) (lit_wf (by omega) (by omega)) (addrs_wf h hK ad ha)
theorem mem_writes {K : Int} {t : Tk} {s : Sp} : s ∈ writesT K t ↔ t.rd = s.rd ∧ s.ph ∈ phasesT t.kd ∧ s.ad ∈ addrsT K t := by
  unfold writesT
  constructor
  · intro h
    obtain ⟨ph, hp, h⟩ := List.mem_flatMap.1 h
    obtain ⟨ad, ha, rfl⟩ := List.mem_map.1 h
    exact ⟨rfl, hp, ha⟩
  · rintro ⟨h1, h2, h3⟩
    exact List.mem_flatMap.2 ⟨s.ph, h2, List.mem_map.2 ⟨s.ad, h3, by rw [h1]⟩⟩
theorem writes_length {K : Int} {t : Tk} (hK : t.kd = 1 → 0 ≤ K ∧ K ≤ 4) : (writesT K t).length ≤ 4 := by
  unfold writesT
  rw [List.length_flatMap]
  simp only [List.length_map]
  have ha : (addrsT K t).length ≤ 4 := by
    unfold addrsT
    split
    · rename_i hk
      have := hK hk
      simp
      omega
    · split <;> simp
  unfold phasesT
  split
  · simp; exact ha
  · split
    · simp; exact ha
    · split
      · rename_i h1 h2 h3
        unfold addrsT
        rw [if_neg (by omega), if_neg (by omega)]
        simp
      · split
        · simp; exact ha
        · simp
theorem reads_length (T : Int) (t : Tk) : (readsT T t).length ≤ 2 := by
  unfold readsT
  split
  · simp
  · split
    · simp
    · split
      · split <;> simp
      · split <;> simp
end Go.Proofs.YtipmfficjomcoaaDoor.Sh
namespace Go.Proofs.YtipmfficjomcoaaDoor.Rc
open Go.RowKit Go.ChangeShapes Go.WideShapes Mem
section
variable {H : Type} {enc : TypeId × Value → H} {w : World} {base : Nat} {spare : Nat → Bool} {held : Bool}
theorem field_int {cs : List Value} {j n : Nat} {t : TypeId} {k : IntKind} {x : Option (DataW H × List MemPlace)} (hj : j < cs.length) (ht : Tryd.prog.underlying t = some (.int k)) (h : DataW.trod enc Tryd.prog w base spare held n t ((cs.drop j).take 1) = x) (hx : x.isSome = true) : ∃ z, cs[j]? = some (.int k z) ∧ (Lit.int k z).wf = true := by
  obtain ⟨y, rfl⟩ := Option.isSome_iff_exists.1 hx
  obtain ⟨z, h2, _, h3⟩ := DataW.trod_int ht h
  rw [List.drop_eq_getElem_cons hj] at h2
  simp only [List.take_succ_cons, List.take_zero] at h2
  exact ⟨z, by rw [List.getElem?_eq_getElem hj, (List.cons.inj h2).1], h3⟩
end
section
variable {S : World → Prop} {ρ : Operand → Value} {o : Oper}
end
end Go.Proofs.YtipmfficjomcoaaDoor.Rc
namespace Go.Proofs.YtipmfficjomcoaaDoor.Rc
open Go.RowKit Go.Shelf Go.Proofs.YtipmfficjomcoaaDoor Mem Help Go.Proofs.YtipmfficjomcoaaDoor.Sum Po Ky Ct Go.Proofs.YtipmfficjomcoaaDoor.Bit Held Go.Proofs.YtipmfficjomcoaaDoor.Range
attribute [local go_sem] Oper.semAt_some
attribute [local irreducible] wpList wpListIn Calls
def may (n0 n1 n2 n3 : Int) : Bool := decide (n0 = 0) || (decide (n0 = 1) && decide (n1 = 0 ∧ n2 = 0 ∧ n3 = 0))
end Go.Proofs.YtipmfficjomcoaaDoor.Rc
namespace Go.Proofs.YtipmfficjomcoaaDoor.Rc
open Go.RowKit Go.Shelf Go.Proofs.YtipmfficjomcoaaDoor Mem Help Go.Proofs.YtipmfficjomcoaaDoor.Sum Po Ky Ct Go.Proofs.YtipmfficjomcoaaDoor.Bit Held Go.Proofs.YtipmfficjomcoaaDoor.Range
attribute [local go_sem] Oper.semAt_some
attribute [local irreducible] wpList wpListIn Calls
end Go.Proofs.YtipmfficjomcoaaDoor.Rc
