/-
  Where every activation may run, what is shown of one operation without a fence holds within a round, and within an iterator, too: no program here.
  Package bitonic's iterator over a round's pairs, by its contract: it hands out the first places, rising, each with the second one.
  dominohelp.Stops of package bitonic's iterator: told to stop behind so many pairs it hands out no more.
  A region that draws its order and in the end stores into what it has loaded: what is loaded ahead of a store that waits for it may be taken first, as long as a condition holds till that store.
  dominohelp.Seq2 of package bitonic's iterator: the first places of a round's pairs, and the second ones, as two lists of the call's own.
  dominohelp.Seq2 of package bitonic's iterator, by its contract.
  dominohelp.Plain of lists of numbers, and the document's own answers for package bitonic, by their contracts.
  The document's own answers for package bitonic: which stage and step a round is, which pairs it has, and which of them are up, by their contracts.
  Package merge's iterator over every other place, by its contract: it hands out the places f, f + 2, .., till there is none or it is told to stop.
  The functions Same and Plain of package dominohelp on records, by their contracts.
  The functions Own and Kept of package dominohelp on records, by their contracts.
  Lists of structs in memory, of any kind whose fields are one cell each: what they read as, literals, appends, stores: no program here.
  More of lists of structs in memory: made (zeros), copied: no program here.
  More steps of a region: a nil check passed, one cell or one struct stored into a block that is known whole, some numbers copied to its head: no program here.
  More steps of a region: a struct allocated, a list of structs built: no program here.
  One struct stored into a list whose block is known whole: no program here.
-/
import Derived.Test.YtbhgonnonhiocaaB2
import Derived.Test.YtbhgonnonhiocaaB4
import Derived.Test.YtbhgonnonhiocaaB3
import Derived.Test.YtbhgonnonhiocaaB1
import Derived.OwnWalk
import Derived.Lib.BufferOwn
import Derived.Maps.AppendAt
import Derived.Great.BuildSlice
import Derived.Deep.MidRow
import Derived.Great.FillDense
import Derived.Laws.CopyOwn
set_option linter.unusedVariables false
namespace Go.Proofs.Ytbhgonnonhiocaa.Held
open Go.RowKit
section
variable {P : Program} {ops : Array Oper} {Q Q' : Exit → Act → World → Prop} {n : Nat} {r : Option Nat} {rest : List Oper} {o : Oper} {a : Act} {w : World}
theorem opIn_wide (ho : ∀ c, o.op ≠ .defer c) (hp : ∀ ch a w, ¬ Q' (.panic ch) a w) (hl : ¬ LetsOut Q') {K : Act → World → Prop} (h : o.wp P a w K Q') : o.wpIn (wideR r) n P a w K Q := by
  refine ⟨fun _ _ => trivial, ?_⟩
  rw [Oper.semAt_plain (wideR r) _ _ ho]
  unfold Oper.wp at h
  generalize (execOp a.eval o).run P w = x at h
  cases x with
  | ok y w' =>
    cases y with
    | value v => exact h
    | skip => exact h
    | «defer» d => exact h
    | enter f args =>
      refine ⟨fun hd => absurd (show false = true from hd) (by simp), (calls_wideR (r := r) h).mono fun e w'' he => ?_⟩
      cases e
      · exact he
      · exact (hp _ _ _ he).elim
      · exact (hl he).elim
    | row row args => exact ⟨fun hd => absurd (show false = true from hd) (by simp), rows_wideR h⟩
    | _ => exact h.elim
  | halt y w' =>
    cases y <;> first | exact h.elim | exact (hp _ _ _ h).elim
theorem wpListIn_one {F : Fence} (hF : F = wideR r) (ho : ∀ c, o.op ≠ .defer c) (h : wpList P ops (fun e a' w' => e = .normal ∧ wpListIn F n P ops Q rest a' w') [o] a w) : wpListIn F n P ops Q (o :: rest) a w := by
  subst hF
  unfold wpList at h
  unfold wpListIn
  split
  · rename_i hw
    simp only [hw, if_true] at h
    rcases h with h | ⟨_, a', w', hx⟩
    · refine Oper.wpIn_mono (fun a' w' h' => ?_) (opIn_wide ho (fun ch a w hx => by cases hx.1) (fun ⟨a, w, hx⟩ => by cases hx.1) h)
      exact h'.2
    · cases hx.1
  · rename_i hw
    simp only [hw] at h
    exact ⟨fun _ _ => trivial, h.2⟩
end
end Go.Proofs.Ytbhgonnonhiocaa.Held
namespace Go.Proofs.Ytbhgonnonhiocaa.Bi
open Go.RowKit Go.Shelf Go.Proofs.Ytbhgonnonhiocaa Mem Held Go.Proofs.Ytbhgonnonhiocaa.Range
attribute [local go_sem] Oper.semAt_some
attribute [local irreducible] wpList wpListIn Calls
theorem Found.is {n : Int} {r : Int} {s t : Nat} {ok : Bool} (h : Found (stg n) r s t ok) (ho : ok = true) : n = ((2 ^ stg n : Nat) : Int) ∧ 1 ≤ t ∧ t ≤ s ∧ s ≤ stg n ∧ stg n ≤ 16 := by
  have h16 := stg_le n
  rcases h with ⟨_, h2⟩ | ⟨h1, _⟩
  · have := h2.t1
    have := h2.ts
    have := h2.sS
    rcases stg_is n with e | ⟨e, _⟩
    · exact ⟨by rw [← two_nat]; exact e, by omega, by omega, by omega, h16⟩
    · omega
  · rw [ho] at h1; cases h1
end Go.Proofs.Ytbhgonnonhiocaa.Bi
namespace Go.Proofs.Ytbhgonnonhiocaa.Bi
open Go.RowKit Go.Shelf Go.Proofs.Ytbhgonnonhiocaa Mem Held Go.Proofs.Ytbhgonnonhiocaa.Range
attribute [local go_sem] Oper.semAt_some
attribute [local irreducible] wpList wpListIn Calls
end Go.Proofs.Ytbhgonnonhiocaa.Bi
namespace Go.Proofs.Ytbhgonnonhiocaa.Held
open Go.RowKit
section
variable {P : Program} {ops : Array Oper} {Q : Exit → Act → World → Prop} {md : Region.Mode} {T : World → Prop} {s : Nat}
theorem not_yet {listed : Array Bool} {j : Nat} {oj : Oper} (hj : j ∈ Region.ready md ops listed) (ho : ops[j]? = some oj) {e : Edge} (he : e ∈ oj.after) (hb : Region.binds md e = true) : listed.getD e.on true ≠ false := fun hx => by
  obtain ⟨_, o, h1, h2⟩ := mem_ready.1 hj
  obtain rfl : o = oj := by rw [h1] at ho; exact Option.some.inj ho
  have := h2 e he hb
  by_cases c : e.on < listed.size
  · simp [c] at hx this; exact absurd (this.symm.trans hx) (by simp)
  · simp [Array.getElem?_eq_none (Nat.le_of_not_lt c)] at this
structure Early (md : Region.Mode) (ops : Array Oper) (B : List Nat) (i : Nat) (oi : Oper) (listed : Array Bool) : Prop where
  ready : i ∈ Region.ready md ops listed
  free : ∀ j oj, ops[j]? = some oj → j ≠ i → listed.getD j true = false → (∀ e ∈ oj.after, Region.binds md e = true → e.on ≠ i) → oi.apart ops oj = true
  late : ∀ b ∈ B, listed.getD b true = false
def Waits (md : Region.Mode) (ops : Array Oper) (B : List Nat) (i : Nat) : Prop := i ∉ B ∧ ∀ b ∈ B, ∀ o, ops[b]? = some o → ∃ e ∈ o.after, Region.binds md e = true ∧ (e.on = i ∨ e.on ∈ B)
section
variable {B : List Nat} {i : Nat} {oi : Oper} {listed : Array Bool}
theorem Early.un (h : Early md ops B i oi listed) : listed.getD i true = false := (mem_ready.1 h.ready).1
theorem Early.waits (h : Early md ops B i oi listed) {j : Nat} {oj : Oper} (hj : j ∈ Region.ready md ops listed) (ho : ops[j]? = some oj) : ∀ e ∈ oj.after, Region.binds md e = true → e.on ≠ i :=
  fun e he hb heq => not_yet hj ho he hb (by rw [heq]; exact h.un)
theorem Early.out (h : Early md ops B i oi listed) (hw : Waits md ops B i) {j : Nat} (hj : j ∈ Region.ready md ops listed) : j ∉ B := fun hjB => by
  obtain ⟨_, oj, ho, _⟩ := mem_ready.1 hj
  obtain ⟨e, he, hb, hor⟩ := hw.2 j hjB oj ho
  rcases hor with h1 | h1
  · exact h.waits hj ho e he hb h1
  · exact not_yet hj ho he hb (h.late _ h1)
theorem Early.next (h : Early md ops B i oi listed) (hw : Waits md ops B i) {j : Nat} (hj : j ∈ Region.ready md ops listed) (hji : j ≠ i) : Early md ops B i oi (listed.setIfInBounds j true) where
  ready := ready_mono h.ready (Ne.symm hji)
  free k ok hk hki hun hno := h.free k ok hk hki (by
    by_cases e : j = k
    · exact e ▸ (mem_ready.1 hj).1
    · rwa [getD_set_ne true e] at hun) hno
  late b hb := by rw [getD_set_ne true (show ¬ j = b from fun e => h.out hw hj (by rw [e]; exact hb))]; exact h.late b hb
end
end
end Go.Proofs.Ytbhgonnonhiocaa.Held
namespace Go.Proofs.Ytbhgonnonhiocaa.Bi
open Go.RowKit Go.Shelf Go.Proofs.Ytbhgonnonhiocaa Mem Held Go.Proofs.Ytbhgonnonhiocaa.Range
attribute [local go_sem] Oper.semAt_some
attribute [local irreducible] wpList wpListIn Calls
theorem own_obj {w : World} {base : Nat} {t : TypeId} {k : IntKind} {v : Value} {zs : List Int} (h : Mem.Own w base t k v zs) {b : Nat} (e : v.ownBlock = some b) : ∃ cs fz, w.heap[b]? = some (.cells cs t fz) := by
  rcases h.2.2 with ⟨rfl, _⟩ | ⟨g, cap, cur, rfl, hb, hg, _⟩
  · simp [Value.ownBlock] at e
  · simp [Value.ownBlock] at e
    subst e
    exact ⟨_, _, hg⟩
theorem own_ne {w : World} {base : Nat} {t : TypeId} {k : IntKind} {v : Value} {zs : List Int} (h : Mem.Own w base t k v zs) {row : Option Nat} (hr : ∀ r, row = some r → ∃ o : Obj, w.heap[r]? = some o ∧ o.isCells = false) : v.ownBlock = none ∨ v.ownBlock ≠ row := by
  cases hq : v.ownBlock with
  | none => exact .inl rfl
  | some b =>
    refine .inr fun e => ?_
    obtain ⟨o, ho, hc⟩ := hr b e.symm
    obtain ⟨cs, fz, h2⟩ := own_obj h hq
    rw [h2] at ho
    cases ho
    cases hc
structure Two (w V : World) (B gx gy : Nat) (ux uy vx vy : Value) (xs ys : List Int) (W : World) : Prop where
  lx : gx < B
  ly : gy < B
  ne : gx ≠ gy
  hx : w.heap.size ≤ gx
  hy : w.heap.size ≤ gy
  cx : W.heap[gx]? = some (.cells #[ux] 38 (0, 0))
  cy : W.heap[gy]? = some (.cells #[uy] 38 (0, 0))
  ox : Mem.Own W B 3 .i64 vx xs
  oy : Mem.Own W B 3 .i64 vy ys
  ap : ∀ b, vx.ownBlock = some b → vy.ownBlock ≠ some b
  low : ∀ b, b < B → b ≠ gx → b ≠ gy → W.heap[b]? = V.heap[b]?
  bel : Below w.heap.size w W
  sz : B ≤ W.heap.size
section
variable {w V W W' : World} {B gx gy : Nat} {ux uy vx vy : Value} {xs ys : List Int}
theorem Two.keep (h : Two w V B gx gy ux uy vx vy xs ys W) {row : Option Nat} (hg : W.grownBy W' row) (hr : ∀ r, row = some r → B ≤ r ∧ ∃ o : Obj, W.heap[r]? = some o ∧ o.isCells = false) : Two w V B gx gy ux uy vx vy xs ys W' := by
  have hne : ∀ i, i < B → some i ≠ row := fun i hi e => by have := (hr i e.symm).1; omega
  have hr2 := fun r e => (hr r e).2
  refine ⟨h.lx, h.ly, h.ne, h.hx, h.hy, Held.keep_cells h.cx hg (hne _ h.lx), Held.keep_cells h.cy hg (hne _ h.ly), h.ox.kept hg (own_ne h.ox hr2), h.oy.kept hg (own_ne h.oy hr2), h.ap, fun b hb h1 h2 => ?_, h.bel.grown hg (by have := h.sz; have := h.hx; have := h.lx; omega) (fun r e => by have := (hr r e).1; have := h.hx; have := h.lx; omega), Nat.le_trans h.sz hg.size⟩
  exact (hg.block b (Nat.lt_of_lt_of_le hb h.sz) (hne b hb)).trans (h.low b hb h1 h2)
theorem Two.after (h : Two w V B gx gy ux uy vx vy xs ys W) (hb : Below W.heap.size W W') : Two w V B gx gy ux uy vx vy xs ys W' := h.keep (grown_of_below hb none) (fun r e => by cases e)
end
section
variable {P : Program} {ops : Array Oper} {Q : Exit → Act → World → Prop}
end
theorem wf_i64 {z : Int} (h : -9223372036854775808 ≤ z) (h' : z ≤ 9223372036854775807) : (Lit.int .i64 z).wf = true := by simp [Lit.wf, IntKind.min, IntKind.max, IntKind.signed, IntKind.bits]; omega
end Go.Proofs.Ytbhgonnonhiocaa.Bi
namespace Go.Proofs.Ytbhgonnonhiocaa.Bi
open Go.RowKit Go.Shelf Go.Proofs.Ytbhgonnonhiocaa Mem Held Go.Proofs.Ytbhgonnonhiocaa.Range
attribute [local go_sem] Oper.semAt_some
attribute [local irreducible] wpList wpListIn Calls
def xsOf (l : List Nat) : List Int := l.map fun (a : Nat) => (a : Int)
def ysOf (t : Nat) (l : List Nat) : List Int := l.map fun (a : Nat) => (a : Int) + 2 ^ (t - 1)
def I2 (w V : World) (B gx gy t : Nat) (pre : List Nat) (W : World) : Prop := ∃ vx vy, Two w V B gx gy vx vy vx vy (xsOf pre) (ysOf t pre) W
theorem I2.from (w V : World) (B gx gy t : Nat) : OwnFrom B (I2 w V B gx gy t) := fun pre W W' row h hg hr => by
  obtain ⟨vx, vy, h⟩ := h
  exact ⟨vx, vy, h.keep hg hr⟩
end Go.Proofs.Ytbhgonnonhiocaa.Bi
namespace Go.Proofs.Ytbhgonnonhiocaa.Bi
open Go.RowKit Go.Shelf Go.Proofs.Ytbhgonnonhiocaa Mem Held Help Go.Proofs.Ytbhgonnonhiocaa.Range
attribute [local go_sem] Oper.semAt_some
attribute [local irreducible] wpList wpListIn Calls
end Go.Proofs.Ytbhgonnonhiocaa.Bi
namespace Go.Proofs.Ytbhgonnonhiocaa.Bi
open Go.RowKit Go.Shelf Go.Proofs.Ytbhgonnonhiocaa Mem Held Help Go.Proofs.Ytbhgonnonhiocaa.Range
attribute [local go_sem] Oper.semAt_some
attribute [local irreducible] wpList wpListIn Calls
section
variable {P : Program} {S : World → Prop} {ρ : Operand → Value} {o : Oper} {t ty : TypeId} {x y : Operand} {k k' : IntKind} {r : Int}
theorem y_rem (a b : Int) (ho : o.op = .binOp .rem t x y ty) (hx : ρ x = .int k a) (hy : ρ y = .int k b) (hr : ∀ w : World, (binOp .rem t (.int k a) (.int k b)).run P w = .ok (.int k r) w) : ∀ w, S w → (execOp ρ o).run P w = .ok (.value (.int k r)) w := Held.y_int ho hx hy hr
theorem y_sub (a b : Int) (ho : o.op = .binOp .sub t x y ty) (hx : ρ x = .int k a) (hy : ρ y = .int k b) (hr : k.wrap (a - b) = r) : ∀ w, S w → (execOp ρ o).run P w = .ok (.value (.int k r)) w := Held.y_int ho hx hy (Held.run_sub t k hr)
end
theorem rem_of {a : Int} (ha : 0 ≤ a) : a.tmod 2 = a % 2 := Int.tmod_eq_emod_of_nonneg ha
end Go.Proofs.Ytbhgonnonhiocaa.Bi
namespace Go.Proofs.Ytbhgonnonhiocaa.Mg
open Go.RowKit Go.Shelf Go.Proofs.Ytbhgonnonhiocaa Mem Held Go.Proofs.Ytbhgonnonhiocaa.Range
attribute [local go_sem] Oper.semAt_some
attribute [local irreducible] wpList wpListIn Calls
theorem other_any (f n : Int) (w : World) :
    Calls Try.prog 27 #[.int .i64 f, .int .i64 n] w fun e w' => ∃ bf bn : Nat, e = .returned (.func (.func 35) #[] #[.pointer (some ⟨bn, 0, none⟩), .pointer (some ⟨bf, 0, none⟩)]) ∧ Blk w' bf 3 #[.int .i64 f] ∧ Blk w' bn 3 #[.int .i64 n] ∧ w.heap.size ≤ bf ∧ w.heap.size ≤ bn ∧ Below w.heap.size w w' := by
  go_enter Try.func27, Try.ntmps27
  go_wp2_with (first
    | (refine Held.wpList_box_cell (w := w) rfl 3 _ rfl (.int .i64 f) rfl rfl ?_; intro w1 q1 g1 z1)
    | (refine Held.wpList_box_cell (w := w1) rfl 3 _ rfl (.int .i64 n) rfl rfl ?_; intro w2 q2 g2 z2))
  have q1 := Blk.grown q1 g2 (by simp)
  go_ret
  exact ⟨_, _, rfl, q1, q2, Nat.le_refl _, g1.size, ((Below.refl _ w).grown g1 (Nat.le_refl _) (by simp)).grown g2 g1.size (by simp)⟩
def atP (f n : Nat) (k : Nat) : Option Nat := if f + 2 * k < n then some (f + 2 * k) else none
def encP (x : Nat) : Array Value := #[.int .i64 (x : Int)]
theorem atP_some {f n k x : Nat} (h : atP f n k = some x) : x = f + 2 * k ∧ f + 2 * k < n := by
  unfold atP at h
  split at h
  · rename_i hk
    injection h with h
    exact ⟨h.symm, hk⟩
  · cases h
theorem atP_none {f n k : Nat} (h : atP f n k = none) : n ≤ f + 2 * k := by
  unfold atP at h
  split at h
  · cases h
  · omega
set_option maxRecDepth 100000 in
set_option maxHeartbeats 4000000 in
theorem places_stop (N bn bf : Nat) (S : Nat → Prop) (f n : Nat) (w : World) (hf : f ≤ 1) (hn : n ≤ 1073741824) (hbn : w.cell? ⟨bn, 0, none⟩ = some (.int .i64 (n : Int))) (hbf : w.cell? ⟨bf, 0, none⟩ = some (.int .i64 (f : Int))) (hSn : ¬ S bn) (hSf : ¬ S bf) :
    SeqStop Fence.wide N Try.prog 35 #[.pointer (some ⟨bn, 0, none⟩), .pointer (some ⟨bf, 0, none⟩)] encP (Only S) (atP f n) w := by
  intro l J Jx Nb W hW hJ hJx hN hY h0
  have kbn := (hW.cell (p := ⟨bn, 0, none⟩) (World.block_lt_of_cell? w _ hbn)).trans hbn
  have kbf := (hW.cell (p := ⟨bf, 0, none⟩) (World.block_lt_of_cell? w _ hbf)).trans hbf
  clear hbn hbf hW hJx
  refine callsIn_of_wp Try.func35 rfl trivial ?_ rfl
  simp only [Try.ntmps35, List.size_toArray, List.length_cons, List.length_nil, Nat.reduceAdd, Nat.reduceSub, Array.replicate_succ, Array.replicate_zero, List.push_toArray, List.append_toArray, List.nil_append, List.cons_append]
  gi_wp2_with fail
  gi_loopw [6] (fun i wr => ∃ p : Nat, p ≤ n ∧ i = .int .i64 p ∧ J ((p + 1 - f) / 2) wr ∧ Only S W wr) (fun i _ => n - (intOf i).toNat)
  case atStart => exact ⟨0, by omega, rfl, by rw [show (0 + 1 - f) / 2 = 0 by omega]; exact h0, Only.refl _ _⟩
  case round =>
    obtain ⟨p, hp, rfl, Jk, ok⟩ := hrel
    by_cases hlt : p < n
    · have kf := ok.cell (p := ⟨bf, 0, none⟩) hSf kbf
      have hlt' : (p : Int) < (n : Int) := by omega
      obtain ⟨r, hr⟩ : ∃ r, p % 2 = r := ⟨_, rfl⟩
      have hmod : ((p : Int)).tmod 2 = (r : Int) := by rw [Bi.rem_of (by omega)]; omega
      have hm := fun W => Held.run_rem (P := Try.prog) 3 .i64 (a := (p : Int)) (b := 2) (r := (r : Int)) (by omega) hmod W
      by_cases hb : r = f
      · have hk : f + 2 * ((p + 1 - f) / 2) = p := by omega
        have hYk := hY ((p + 1 - f) / 2) p wr Jk (by unfold atP; rw [hk, if_pos hlt])
        have hnx : (p + 1 - f) / 2 + 1 = (p + 1 + 1 - f) / 2 := by omega
        rw [hnx] at hYk
        obtain ⟨fn, tmps, assign, body, hy, hR⟩ := hYk
        have hy : (Instr.yield l #[.int .i64 (p : Int)]).run Try.prog wr = .ok (.round l fn tmps assign body) wr := hy
        clear hY hN hnx hk hmod hr
        subst hb
        gi_wp2_with (first
          | (refine Held.wpListIn_one (r := none) rfl (by intro c e; cases e) ?_; refine Held.wpList_run (w := wr) rfl (v := .int .i64 (r : Int)) (Bi.y_rem (S := fun _ => True) (p : Int) 2 rfl rfl rfl hm _ trivial) ?_; refine wpList_nil ⟨rfl, ?_⟩))
        refine ⟨fun h => (by cases h), ?_⟩
        refine hR.mono ?_
        rintro e W4 (⟨rfl, J4, o4⟩ | ⟨rfl, Jx4⟩)
        · have o5 := ok.trans o4
          clear hR hy o4 ok Jk
          gi_wp2_with fail
          go_roundw
          case rel => exact ⟨p + 1, by omega, by go_num, J4, o5⟩
          case measure => simp [intOf]; omega
        · gi_wp2_with fail
          exact bodyPost_ret (results_none rfl _ _ _) rfl ⟨⟨_, rfl⟩, .inr ⟨_, Jx4⟩⟩
      · have hnx : (p + 1 - f) / 2 = (p + 1 + 1 - f) / 2 := by omega
        rw [hnx] at Jk
        have hb' : ¬ (r : Int) = (f : Int) := by omega
        have hqf : decide ((r : Int) = (f : Int)) = false := by simp; omega
        clear hY hN hnx hmod hr hb hb'
        gi_wp2_with (first
          | (refine Held.wpListIn_one (r := none) rfl (by intro c e; cases e) ?_; refine Held.wpList_run (w := wr) rfl (v := .int .i64 (r : Int)) (Bi.y_rem (S := fun _ => True) (p : Int) 2 rfl rfl rfl hm _ trivial) ?_; refine wpList_nil ⟨rfl, ?_⟩)
          | (refine Held.wpListIn_one (r := none) rfl (by intro c e; cases e) ?_; refine Held.wpList_run (w := wr) rfl (v := .bool false) (Held.y_eqI (S := fun _ => True) rfl rfl rfl hqf _ trivial) ?_; refine wpList_nil ⟨rfl, ?_⟩; simp only [Act.put, Z1, Z2, Z3]))
        refine ⟨fun _ h => (by cases h), ?_⟩
        gi_wp2_with fail
        try refine ⟨fun _ h => (by cases h), ?_⟩
        gi_wp2_with fail
        go_roundw
        case rel => exact ⟨p + 1, by omega, by go_num, Jk, ok⟩
        case measure => simp [intOf]; omega
    · have hpn : p = n := by omega
      subst hpn
      gi_wp2_with fail
      go_end0
      exact ⟨⟨_, rfl⟩, .inl ⟨(p + 1 - f) / 2, by unfold atP; rw [if_neg (by omega)], Jk⟩⟩
end Go.Proofs.Ytbhgonnonhiocaa.Mg
namespace Go.Proofs.Ytbhgonnonhiocaa.Rs
open Go.RowKit Go.Shelf Go.Proofs.Ytbhgonnonhiocaa Mem Held Rc
attribute [local irreducible] wpList wpListIn Calls
theorem eqr_any (a b : R) (w : World) : Calls Try.prog 26 #[.agg #[.bool a.d, .int .i64 a.k, .int .i64 a.v, .int .i64 a.s], .agg #[.bool b.d, .int .i64 b.k, .int .i64 b.v, .int .i64 b.s]] w fun e w' => e = .returned (.bool (decide (a = b))) ∧ Below w.heap.size w w' := by
  have HR := Lib.hid (show decide (a.d = b.d ∧ a.k = b.k ∧ a.v = b.v ∧ a.s = b.s) = decide (a = b) from decide_eq_decide.2 R.iff.symm)
  go_enter Try.func26, Try.ntmps26
  go_wp2_with (first
    | (refine wpList_box_blk (w := w) rfl 26 _ rfl _ rfl ?_; intro w1 q1 g1 z1)
    | (refine wpList_box_blk (w := w1) rfl 26 _ rfl _ rfl ?_; intro w2 q2 g2 z2; have q1 := q1.grown g2 (by simp))
    | (refine wpList_load_blk (w := w2) rfl 26 _ rfl w.heap.size 4 rfl 26 _ q1 _ Try.underlying26 rfl (by kernel_rfl) rfl ?_)
    | (refine wpList_load_blk (w := w2) rfl 26 _ rfl w1.heap.size 4 rfl 26 _ q2 _ Try.underlying26 rfl (by kernel_rfl) rfl ?_)
    | (refine wpList_run rfl (v := .bool (decide (a = b))) (y_eqr (S := fun _ => True) rfl rfl rfl HR.out _ trivial) ?_))
  go_ret
  exact ⟨rfl, ((Below.refl _ w).grown g1 (Nat.le_refl _) (by simp)).grown g2 g1.size (by simp)⟩
theorem take_stepR {xs ys : List R} {k : Nat} (hx : k < xs.length) (hy : k < ys.length) (h : xs.take k = ys.take k) (e : xs.getD k R0 = ys.getD k R0) : xs.take (k + 1) = ys.take (k + 1) := by
  rw [List.take_add_one, List.take_add_one, h]
  simp only [List.getD_eq_getElem?_getD, List.getElem?_eq_getElem hx, List.getElem?_eq_getElem hy, Option.getD_some] at e
  rw [List.getElem?_eq_getElem hx, List.getElem?_eq_getElem hy, e]
set_option maxRecDepth 100000 in
set_option maxHeartbeats 4000000 in
theorem same_any (B B' : Nat) (A A' : Option Addr) (n n' c c' : Nat) (rs rs' : List R) (w : World) (h : Recs w B A n rs) (h' : Recs w B' A' n' rs') (hB : B ≤ w.heap.size) (hB' : B' ≤ w.heap.size) (hn : n ≤ 1073741824) (hn' : n' ≤ 1073741824) :
    Calls Try.prog 25 #[.slice A n c, .slice A' n' c', .func (.func 26) #[] #[]] w fun e w' => e = .returned (.bool (decide (rs = rs'))) ∧ Below w.heap.size w w' := by
  by_cases hnn : n = n'
  · subst hnn
    have hne : ((n : Int) != (n : Int)) = false := by simp
    have HL := Lib.hid h.1
    have HL' := Lib.hid h'.1
    go_enter Try.func25, Try.ntmps25
    go_wp2_with fail
    go_loopw [7] (fun i wr => ∃ k : Nat, k ≤ n ∧ i = .int .i64 k ∧ Below w.heap.size w wr ∧ Hid (rs.take k = rs'.take k)) (fun i _ => n - (intOf i).toNat)
    case atStart => exact ⟨0, by omega, rfl, Below.refl _ _, Lib.hid rfl⟩
    case round =>
      obtain ⟨k, hk, rfl, hst, ht⟩ := hrel
      have hBk := Nat.le_trans hB hst.size
      have hBk' := Nat.le_trans hB' hst.size
      by_cases hlt : k < n
      · obtain ⟨b, off, rfl, hb, hx⟩ := (h.below (hst.mono hB)).at_ hlt
        obtain ⟨b', off', rfl, hb', hy⟩ := (h'.below (hst.mono hB')).at_ hlt
        have hlt' : (k : Int) < (n : Int) := by omega
        have hk0 : (0 : Int) ≤ (k : Int) := by omega
        by_cases hq0 : rs.getD k R0 = rs'.getD k R0
        · have HT := Lib.hid (take_stepR (by have := HL.out; omega) (by have := HL'.out; omega) ht.out hq0)
          have hq : decide (rs.getD k R0 = rs'.getD k R0) = true := by simpa using hq0
          clear hq0
          generalize rs.getD k R0 = x at hx hq
          generalize rs'.getD k R0 = y at hy hq
          go_wp2_with fail
          refine wp_region_held (S := fun W => Below wr.heap.size wr W) (by kernel_rfl) ?_
          change wpAnyH _ _ _ _ _ _ _ _ wr.drew
          have c0_0 := (Below.refl wr.heap.size wr).drew
          refine Held.tk (v := .func (.func 26) #[] #[]) 0 (some 19) rfl (Held.y_move rfl rfl) c0_0 ?_
          simp only [Act.put, Z1, Z2, Z3]
          refine Held.tk (v := .slice (some ⟨b, off, none⟩) n c) 1 (some 20) rfl (Held.y_move rfl rfl) c0_0 ?_
          simp only [Act.put, Z1, Z2, Z3]
          refine Held.tk (v := .int .i64 (k : Int)) 2 (some 21) rfl (Held.y_move rfl rfl) c0_0 ?_
          simp only [Act.put, Z1, Z2, Z3]
          refine Held.tk (v := .pointer (some ⟨b, off + k * 4, none⟩)) 3 (some 22) rfl (Held.y_addr rfl rfl rfl (run_addr_of 22 26 b off n c k 4 .i64 Try.underlying22 (by kernel_rfl) hlt)) c0_0 ?_
          simp only [Act.put, Z1, Z2, Z3]
          refine Held.tk (v := .agg #[.bool x.d, .int .i64 x.k, .int .i64 x.v, .int .i64 x.s]) 4 (some 23) rfl (y_load_range (n := 4) (cs := x.cells) rfl rfl Try.underlying26 rfl (by kernel_rfl) rfl (fun W hW => range_below hx hW (Nat.lt_of_lt_of_le hb hBk))) c0_0 ?_
          simp only [Act.put, Z1, Z2, Z3]
          refine Held.tk (v := .slice (some ⟨b', off', none⟩) n c') 5 (some 24) rfl (Held.y_move rfl rfl) c0_0 ?_
          simp only [Act.put, Z1, Z2, Z3]
          refine Held.tk (v := .int .i64 (k : Int)) 6 (some 25) rfl (Held.y_move rfl rfl) c0_0 ?_
          simp only [Act.put, Z1, Z2, Z3]
          refine Held.tk (v := .pointer (some ⟨b', off' + k * 4, none⟩)) 7 (some 26) rfl (Held.y_addr rfl rfl rfl (run_addr_of 22 26 b' off' n c' k 4 .i64 Try.underlying22 (by kernel_rfl) hlt)) c0_0 ?_
          simp only [Act.put, Z1, Z2, Z3]
          refine Held.tk (v := .agg #[.bool y.d, .int .i64 y.k, .int .i64 y.v, .int .i64 y.s]) 8 (some 27) rfl (y_load_range (n := 4) (cs := y.cells) rfl rfl Try.underlying26 rfl (by kernel_rfl) rfl (fun W hW => range_below hy hW (Nat.lt_of_lt_of_le hb' hBk'))) c0_0 ?_
          simp only [Act.put, Z1, Z2, Z3]
          refine Held.one 9 (by kernel_rfl) ?_
          refine Rs.op_callv 9 (some 28) 26 #[] #[.agg #[.bool x.d, .int .i64 x.k, .int .i64 x.v, .int .i64 x.s], .agg #[.bool y.d, .int .i64 y.k, .int .i64 y.v, .int .i64 y.s]] rfl rfl rfl rfl rfl (enters_of Try.func26 (by kernel_rfl) rfl) (by simp [Act.eval])
            (by have := eqr_any x y wr.drew; rwa [hq] at this) ?_
          rintro e w1 ⟨rfl, b1⟩
          have c0_1 := c0_0.trans (b1.mono c0_0.size)
          refine ⟨_, rfl, c0_1, ?_⟩
          simp only [Act.put, Z1, Z2, Z3]
          refine Held.tk (v := .bool false) 10 (some 29) rfl (Held.y_not rfl rfl rfl) c0_1 ?_
          simp only [Act.put, Z1, Z2, Z3]
          refine wpAnyH_done (by kernel_rfl) ?_ _
          have dz := hst.trans (c0_1.mono hst.size)
          generalize w1 = wz at dz ⊢
          clear hx hy c0_1
          go_wp2_with fail
          go_roundw
          case rel => exact ⟨k + 1, by omega, by go_num, dz, HT⟩
          case measure => simp [intOf]; omega
        · have HF := Lib.hid (show decide (rs = rs') = false by
            rw [decide_eq_false_iff_not]; intro e; exact hq0 (by rw [e]))
          have hq : decide (rs.getD k R0 = rs'.getD k R0) = false := by simpa using hq0
          clear hq0
          generalize rs.getD k R0 = x at hx hq
          generalize rs'.getD k R0 = y at hy hq
          go_wp2_with fail
          refine wp_region_held (S := fun W => Below wr.heap.size wr W) (by kernel_rfl) ?_
          change wpAnyH _ _ _ _ _ _ _ _ wr.drew
          have c0_0 := (Below.refl wr.heap.size wr).drew
          refine Held.tk (v := .func (.func 26) #[] #[]) 0 (some 19) rfl (Held.y_move rfl rfl) c0_0 ?_
          simp only [Act.put, Z1, Z2, Z3]
          refine Held.tk (v := .slice (some ⟨b, off, none⟩) n c) 1 (some 20) rfl (Held.y_move rfl rfl) c0_0 ?_
          simp only [Act.put, Z1, Z2, Z3]
          refine Held.tk (v := .int .i64 (k : Int)) 2 (some 21) rfl (Held.y_move rfl rfl) c0_0 ?_
          simp only [Act.put, Z1, Z2, Z3]
          refine Held.tk (v := .pointer (some ⟨b, off + k * 4, none⟩)) 3 (some 22) rfl (Held.y_addr rfl rfl rfl (run_addr_of 22 26 b off n c k 4 .i64 Try.underlying22 (by kernel_rfl) hlt)) c0_0 ?_
          simp only [Act.put, Z1, Z2, Z3]
          refine Held.tk (v := .agg #[.bool x.d, .int .i64 x.k, .int .i64 x.v, .int .i64 x.s]) 4 (some 23) rfl (y_load_range (n := 4) (cs := x.cells) rfl rfl Try.underlying26 rfl (by kernel_rfl) rfl (fun W hW => range_below hx hW (Nat.lt_of_lt_of_le hb hBk))) c0_0 ?_
          simp only [Act.put, Z1, Z2, Z3]
          refine Held.tk (v := .slice (some ⟨b', off', none⟩) n c') 5 (some 24) rfl (Held.y_move rfl rfl) c0_0 ?_
          simp only [Act.put, Z1, Z2, Z3]
          refine Held.tk (v := .int .i64 (k : Int)) 6 (some 25) rfl (Held.y_move rfl rfl) c0_0 ?_
          simp only [Act.put, Z1, Z2, Z3]
          refine Held.tk (v := .pointer (some ⟨b', off' + k * 4, none⟩)) 7 (some 26) rfl (Held.y_addr rfl rfl rfl (run_addr_of 22 26 b' off' n c' k 4 .i64 Try.underlying22 (by kernel_rfl) hlt)) c0_0 ?_
          simp only [Act.put, Z1, Z2, Z3]
          refine Held.tk (v := .agg #[.bool y.d, .int .i64 y.k, .int .i64 y.v, .int .i64 y.s]) 8 (some 27) rfl (y_load_range (n := 4) (cs := y.cells) rfl rfl Try.underlying26 rfl (by kernel_rfl) rfl (fun W hW => range_below hy hW (Nat.lt_of_lt_of_le hb' hBk'))) c0_0 ?_
          simp only [Act.put, Z1, Z2, Z3]
          refine Held.one 9 (by kernel_rfl) ?_
          refine Rs.op_callv 9 (some 28) 26 #[] #[.agg #[.bool x.d, .int .i64 x.k, .int .i64 x.v, .int .i64 x.s], .agg #[.bool y.d, .int .i64 y.k, .int .i64 y.v, .int .i64 y.s]] rfl rfl rfl rfl rfl (enters_of Try.func26 (by kernel_rfl) rfl) (by simp [Act.eval])
            (by have := eqr_any x y wr.drew; rwa [hq] at this) ?_
          rintro e w1 ⟨rfl, b1⟩
          have c0_1 := c0_0.trans (b1.mono c0_0.size)
          refine ⟨_, rfl, c0_1, ?_⟩
          simp only [Act.put, Z1, Z2, Z3]
          refine Held.tk (v := .bool true) 10 (some 29) rfl (Held.y_not rfl rfl rfl) c0_1 ?_
          simp only [Act.put, Z1, Z2, Z3]
          refine wpAnyH_done (by kernel_rfl) ?_ _
          have dz := hst.trans (c0_1.mono hst.size)
          generalize w1 = wz at dz ⊢
          clear hx hy c0_1
          go_wp2_with fail
          go_ret
          exact ⟨Mem.ret_bool HF.out.symm, dz⟩
      · have HF := Lib.hid (show decide (rs = rs') = true by
          have e1 := ht.out
          rw [List.take_of_length_le (by have := HL.out; omega), List.take_of_length_le (by have := HL'.out; omega)] at e1
          simpa using e1)
        go_wp2_with fail
        go_ret
        exact ⟨Mem.ret_bool HF.out.symm, hst⟩
  · have hne : ((n : Int) != (n' : Int)) = true := by simp; omega
    have HF := Lib.hid (show decide (rs = rs') = false by
      rw [decide_eq_false_iff_not]; intro e; exact hnn (by rw [← h.1, ← h'.1, e]))
    clear h h' hnn
    go_enter Try.func25, Try.ntmps25
    go_wp2_with fail
    go_ret
    exact ⟨Mem.ret_bool HF.out.symm, Below.refl _ _⟩
theorem plain_any (B B' : Nat) (A A' : Option Addr) (n n' c c' : Nat) (rs rs' : List R) (w : World) (h : Recs w B A n rs) (h' : Recs w B' A' n' rs') (hB : B ≤ w.heap.size) (hB' : B' ≤ w.heap.size) (hn : n ≤ 1073741824) (hn' : n' ≤ 1073741824) :
    Calls Try.prog 12 #[.slice A n c, .slice A' n' c'] w fun e w' => e = .returned (.bool (decide (rs = rs'))) ∧ Below w.heap.size w w' := by
  go_enter Try.func12, Try.ntmps12
  go_wp2_with fail
  refine (same_any B B' A A' n n' c c' rs rs' w h h' hB hB' hn hn').mono ?_
  rintro e w' ⟨rfl, hst⟩
  go_wp2_with fail
  go_ret
  exact ⟨rfl, hst⟩
end Go.Proofs.Ytbhgonnonhiocaa.Rs
namespace Go.Proofs.Ytbhgonnonhiocaa.Rs
open Go.RowKit Go.Shelf Go.Proofs.Ytbhgonnonhiocaa Mem Held Rc
set_option maxRecDepth 100000
attribute [local irreducible] wpList wpListIn Calls
theorem info_recs : (Try.prog.info? 26).map (fun i => (i.size, i.bytes)) = some (4, 32) := by kernel_rfl
theorem wpList_append_ran {P : Program} {ops : Array Oper} {rest : List Oper} {o : Oper} {a : Act} {w : World} {Q : Exit → Act → World → Prop} (hgd : o.guard = none) (s x : Operand) (ts tx : TypeId) (ho : o.op = .call { callee := .builtin .append, args := #[s, x], argTypes := #[ts, tx] }) (u v r : Value) (w' : World) (hs : a.eval s = u) (hx : a.eval x = v)
    (hr : (Builtin.append_ #[ts, tx] o.type #[u, v]).run P w = .ok r w') (h : wpList P ops Q rest (a.put o.dst r) w') : wpList P ops Q (o :: rest) a w := by
  refine wpList_plain hgd fun K hK => ?_
  unfold Oper.wp execOp
  simp only [ho, resolve, invoke, builtin, Sem.run_bind, Sem.run_pure, Result.andThen_ok, List.map_toArray, List.map_cons, List.map_nil, hs, hx, hr]
  exact hK _ _ h
def OwnR (w : World) (base : Nat) (v : Value) (rs : List R) : Prop := w.ownsRow base 26 4 v rs.length (flat rs)
theorem OwnR.nil (w : World) (base : Nat) : OwnR w base (.slice none 0 0) [] := World.ownsRow_nil _ _ _ _
theorem OwnR.form {w : World} {base : Nat} {v : Value} {rs : List R} (h : OwnR w base v rs) : ∃ A c, v = .slice A rs.length c ∧ rs.length ≤ c ∧ c ≤ maxLen := Held.row_form h
theorem OwnR.kept {w w' : World} {base : Nat} {v : Value} {rs : List R} (h : OwnR w base v rs) {row : Option Nat} (hg : w.grownBy w' row) (hne : v.ownBlock = none ∨ v.ownBlock ≠ row) : OwnR w' base v rs := World.ownsRow.kept h hg hne
theorem OwnR.below {w w' : World} {base : Nat} {v : Value} {rs : List R} (h : OwnR w base v rs) (hb : Below w.heap.size w w') : OwnR w' base v rs := h.kept (grown_of_below hb none) (by cases v.ownBlock <;> simp)
theorem wpList_build_rec {ops : Array Oper} {rest : List Oper} {o : Oper} {a : Act} {w : World} {Q : Exit → Act → World → Prop} (hgd : o.guard = none) (y : Operand) (ho : o.op = .buildSlice 22 1 #[(0, y)]) (f : R) (hy : a.eval y = .agg #[.bool f.d, .int .i64 f.k, .int .i64 f.v, .int .i64 f.s])
    (h : ∀ w', Blk w' w.heap.size 26 f.cells.toArray → w.grownBy w' none → Hid (w'.heap.size = w.heap.size + 1) → wpList Try.prog ops Q rest (a.put o.dst (.slice (some ⟨w.heap.size, 0, none⟩) 1 1)) w') : wpList Try.prog ops Q (o :: rest) a w := by
  obtain ⟨ie, hie, hsb⟩ := Option.map_eq_some_iff.1 info_recs
  simp only [Prod.mk.injEq] at hsb
  have hz : ie.zero = some (.agg #[.bool false, .int .i64 0, .int .i64 0, .int .i64 0]) := by
    have := zero_rec
    rw [hie] at this
    exact this
  refine Go.wpList_buildSlice hgd 22 26 1 #[(0, y)] ho f.cells.toArray ie _ Try.underlying22 hie hz (by rw [hsb.1]; omega) (by rw [hsb.1]; omega) ?_ (h _ (heap_alloc_new w _) (World.grownBy_alloc w _ none) (Lib.hid (by simp)))
  have hf := Great.fill_whole (s := 4) (by omega) [.agg f.cells.toArray] ((Array.range (1 * ie.size)).map ((Value.agg #[.bool false, .int .i64 0, .int .i64 0, .int .i64 0]).cells[· % (Value.agg #[.bool false, .int .i64 0, .int .i64 0, .int .i64 0]).cells.size]!)) (by simp [Value.cells, R.cells]) (by simp [hsb.1])
  rw [hsb.1] at hf ⊢
  simp only [List.map_toArray, List.map_cons, List.map_nil, hy]
  refine Eq.trans ?_ (hf.trans ?_)
  · rfl
  · simp [Value.cells, R.cells]
end Go.Proofs.Ytbhgonnonhiocaa.Rs
namespace Go.Proofs.Ytbhgonnonhiocaa.Sl
open Go.RowKit Go.Shelf Mem Held
structure St (α : Type) where
  s : Nat
  cells : α → List Value
  wf : α → Prop
  d : α
  len : ∀ x, (cells x).length = s
  one : ∀ x, ∀ u ∈ cells x, u.oneCell' = true
  pos : 0 < s
section
variable {α : Type} {k : St α}
def flat (k : St α) (xs : List α) : List Value := xs.flatMap k.cells
theorem flat_length (k : St α) : ∀ xs : List α, (flat k xs).length = xs.length * k.s
  | [] => by simp [flat]
  | x :: xs => by
    have := flat_length k xs
    simp only [flat, List.flatMap_cons, List.length_append, List.length_cons, k.len] at this ⊢
    rw [this, Nat.add_mul, Nat.one_mul, Nat.add_comm]
theorem flat_append (xs ys : List α) : flat k (xs ++ ys) = flat k xs ++ flat k ys := by simp [flat]
theorem flat_at : ∀ (xs : List α) (i j : Nat), j < k.s → i < xs.length → (flat k xs)[i * k.s + j]? = (k.cells (xs.getD i k.d))[j]?
  | [], i, j, _, h => absurd h (by simp)
  | x :: xs, 0, j, hj, _ => by
    simp only [flat, List.flatMap_cons, Nat.zero_mul, Nat.zero_add, List.getD_cons_zero]
    rw [List.getElem?_append_left (by rw [k.len]; exact hj)]
  | x :: xs, i + 1, j, hj, h => by
    have := flat_at xs i j hj (by simpa using h)
    simp only [flat, List.flatMap_cons, List.getD_cons_succ] at this ⊢
    have hm : (i + 1) * k.s + j = k.s + (i * k.s + j) := by rw [Nat.add_mul, Nat.one_mul]; omega
    rw [List.getElem?_append_right (by rw [k.len]; omega), k.len, hm, Nat.add_sub_cancel_left, this]
theorem flat_cell (xs : List α) : ∀ u ∈ flat k xs, u.oneCell' = true := fun u hu => by
  obtain ⟨x, _, h⟩ := List.mem_flatMap.1 hu
  exact k.one x u h
theorem flat_take (xs : List α) (i : Nat) (h : i ≤ xs.length) : (flat k xs).take (i * k.s) = flat k (xs.take i) := by
  have e : flat k xs = flat k (xs.take i) ++ flat k (xs.drop i) := by rw [← flat_append, List.take_append_drop]
  rw [e, List.take_left' (by rw [flat_length, List.length_take, Nat.min_eq_left h])]
theorem flat_drop (xs : List α) (i : Nat) (h : i ≤ xs.length) : (flat k xs).drop (i * k.s) = flat k (xs.drop i) := by
  have e : flat k xs = flat k (xs.take i) ++ flat k (xs.drop i) := by rw [← flat_append, List.take_append_drop]
  rw [e, List.drop_left' (by rw [flat_length, List.length_take, Nat.min_eq_left h])]
theorem flat_set (xs : List α) (i : Nat) (x : α) (h : i < xs.length) : flat k (xs.set i x) = (flat k xs).take (i * k.s) ++ k.cells x ++ (flat k xs).drop (i * k.s + k.s) := by
  rw [List.set_eq_take_append_cons_drop, if_pos h, flat_take xs i (by omega), show i * k.s + k.s = (i + 1) * k.s by rw [Nat.add_mul, Nat.one_mul], flat_drop xs (i + 1) (by omega)]
  simp [flat]
def Lst (k : St α) (w : World) (B : Nat) (A : Option Addr) (n : Nat) (xs : List α) : Prop :=
  xs.length = n ∧ (∀ x ∈ xs, k.wf x) ∧ (0 < n → ∃ b off, A = some ⟨b, off, none⟩ ∧ b < B ∧ w.rangeAt b off (flat k xs))
variable {w w' : World} {B B' n : Nat} {A : Option Addr} {xs : List α}
theorem Lst.nil (k : St α) (w : World) (B : Nat) (A : Option Addr) : Lst k w B A 0 [] := ⟨rfl, by simp, fun h => absurd h (by omega)⟩
theorem Lst.keep (h : Lst k w B A n xs) (hk : ∀ p : Addr, p.block < B → w'.cell? p = w.cell? p) : Lst k w' B A n xs :=
  ⟨h.1, h.2.1, fun hn => by
    obtain ⟨b, off, e, hb, hc⟩ := h.2.2 hn
    exact ⟨b, off, e, hb, fun j v hv => (hk ⟨b, off + j, none⟩ hb).trans (hc j v hv)⟩⟩
theorem Lst.more (h : Lst k w B A n xs) (hB : B ≤ B') : Lst k w B' A n xs :=
  ⟨h.1, h.2.1, fun hn => by
    obtain ⟨b, off, e, hb, hc⟩ := h.2.2 hn
    exact ⟨b, off, e, by omega, hc⟩⟩
theorem Lst.below (h : Lst k w B A n xs) (hb : Below B w w') : Lst k w' B A n xs := h.keep fun _ hp => hb.cell hp
theorem Lst.at_ (h : Lst k w B A n xs) {i : Nat} (hi : i < n) : ∃ b off, A = some ⟨b, off, none⟩ ∧ b < B ∧ w.rangeAt b (off + i * k.s) (k.cells (xs.getD i k.d)) := by
  obtain ⟨b, off, e, hb, hc⟩ := h.2.2 (by omega)
  refine ⟨b, off, e, hb, fun j v hv => ?_⟩
  have hj : j < k.s := by have := (List.getElem?_eq_some_iff.1 hv).1; rwa [k.len] at this
  rw [Nat.add_assoc]
  exact hc (i * k.s + j) v (by rw [flat_at xs i j hj (by rw [h.1]; exact hi)]; exact hv)
theorem lst_of_blk {g : Nat} {t : TypeId} {ys : List α} (h : Blk w g t (flat k (xs ++ ys)).toArray) (hw : ∀ x ∈ xs, k.wf x) : Lst k w w.heap.size (some ⟨g, 0, none⟩) xs.length xs :=
  ⟨rfl, hw, fun _ => ⟨g, 0, rfl, h.lt, fun j v hv => by
    rw [Nat.zero_add]
    refine h.cell ?_
    rw [List.getElem?_toArray, flat_append, List.getElem?_append_left (List.getElem?_eq_some_iff.1 hv).1]
    exact hv⟩⟩
theorem lst_whole {g : Nat} {t : TypeId} (h : Blk w g t (flat k xs).toArray) (hn : xs.length = n) (hw : ∀ x ∈ xs, k.wf x) : Lst k w w.heap.size (some ⟨g, 0, none⟩) n xs := by
  subst hn
  exact lst_of_blk (ys := []) (by rw [List.append_nil]; exact h) hw
def OwnL (k : St α) (t : TypeId) (w : World) (base : Nat) (v : Value) (xs : List α) : Prop := w.ownsRow base t k.s v xs.length (flat k xs)
variable {t : TypeId} {base : Nat} {v : Value}
theorem OwnL.nil (k : St α) (t : TypeId) (w : World) (base : Nat) : OwnL k t w base (.slice none 0 0) [] := ⟨by simp [flat], .inl ⟨rfl, rfl⟩⟩
theorem OwnL.form (h : OwnL k t w base v xs) : ∃ A c, v = .slice A xs.length c ∧ xs.length ≤ c ∧ c ≤ maxLen := Held.row_form h
theorem OwnL.form2 (h : OwnL k t w base v xs) : ∃ A n c, v = .slice A n c ∧ Hid (xs.length = n) ∧ n ≤ c ∧ c ≤ maxLen := by
  obtain ⟨A, c, e, h1, h2⟩ := h.form
  exact ⟨A, _, c, e, Lib.hid rfl, h1, h2⟩
theorem OwnL.ne_blk (h : OwnL k t w base v xs) {g : Nat} {t' : TypeId} {cs : Array Value} (hb : Blk w g t' cs) (ht : t ≠ t') : v.ownBlock ≠ some g := fun e => by
  rcases h.2 with ⟨rfl, _⟩ | ⟨g', cap, cur, rfl, _, hg, _⟩
  · cases e
  · have e : some g' = some g := e
    injection e with e
    subst e
    have hb : w.heap[g']? = some (.cells cs t' (0, 0)) := hb
    rw [hg] at hb
    injection hb with hb
    injection hb with _ hb
    exact ht hb
theorem OwnL.kept (h : OwnL k t w base v xs) {row : Option Nat} (hg : w.grownBy w' row) (hne : v.ownBlock = none ∨ v.ownBlock ≠ row) : OwnL k t w' base v xs := World.ownsRow.kept h hg hne
theorem OwnL.below (h : OwnL k t w base v xs) (hb : Below w.heap.size w w') : OwnL k t w' base v xs := h.kept (grown_of_below hb none) (by cases v.ownBlock <;> simp)
theorem OwnL.lt (h : OwnL k t w base v xs) : ∀ b, v.ownBlock = some b → base ≤ b ∧ b < w.heap.size := World.ownsRow.lt h
theorem OwnL.less (h : OwnL k t w base v xs) {b : Nat} (hb : b ≤ base) : OwnL k t w b v xs := by
  refine ⟨h.1, ?_⟩
  rcases h.2 with h0 | ⟨g, cap, cur, e, hg, rest⟩
  · exact .inl h0
  · exact .inr ⟨g, cap, cur, e, Nat.le_trans hb hg, rest⟩
theorem OwnL.lst {c : Nat} (h : OwnL k t w base (.slice A n c) xs) (hw : ∀ x ∈ xs, k.wf x) : Lst k w w.heap.size A n xs := by
  rcases h.2 with ⟨e, hn⟩ | ⟨g, cap, cur, e, hb, hg, hnc, hcm, hcs, ht⟩
  · injection e with e1 e2 e3
    subst e1
    subst e2
    have : xs = [] := List.eq_nil_of_length_eq_zero hn
    subst this
    exact Lst.nil _ _ _ _
  · injection e with e1 e2 e3
    subst e1
    subst e2
    refine ⟨rfl, hw, fun _ => ⟨g, 0, rfl, (Array.getElem?_eq_some_iff.1 hg).1, fun j v hv => ?_⟩⟩
    rw [Nat.zero_add, cell_of_row w g j _ _ (0, 0) hg]
    have hj := (List.getElem?_eq_some_iff.1 hv).1
    rw [flat_length] at hj
    have := congrArg (fun l => l[j]?) ht
    simp only [List.getElem?_take, hj, if_true] at this
    rw [← hv, ← this]
    simp
theorem own_of_blk {g : Nat} (h : Blk w g t (flat k xs).toArray) (hb : base ≤ g) (hm : xs.length ≤ maxLen) : OwnL k t w base (.slice (some ⟨g, 0, none⟩) xs.length xs.length) xs :=
  ⟨flat_length k xs, .inr ⟨g, xs.length, _, rfl, hb, h, Nat.le_refl _, hm, by simp [flat_length], by rw [List.take_of_length_le (by simp [flat_length])]⟩⟩
end
section
variable {α : Type} {k : St α} {P : Program} {ops : Array Oper} {rest : List Oper} {o : Oper} {a : Act} {w : World} {Q : Exit → Act → World → Prop}
theorem wpList_append_lst (hgd : o.guard = none) (s x : Operand) (ts e : TypeId) (ho : o.op = .call { callee := .builtin .append, args := #[s, x], argTypes := #[ts, ts] }) (hu : P.underlying ts = some (.slice e)) (z : Value) (bytes : Nat) (hinfo : (P.info? e).map (fun i => (i.zero, i.size, i.bytes)) = some (some z, k.s, bytes)) (hz : z.cells.size = k.s)
    (base B g off m c : Nat) (v : Value) (xs ys : List α) (hs : a.eval s = v) (hx : a.eval x = .slice (some ⟨g, off, none⟩) m c) (hown : OwnL k e w base v xs) (hq : Lst k w B (some ⟨g, off, none⟩) m ys) (hm : xs.length + m ≤ 1048576) (hby : bytes ≤ 1048576) (hbase : base ≤ w.heap.size)
    (h : ∀ v' w', OwnL k e w' base v' (xs ++ ys) → w.grownBy w' v.ownBlock → (v'.ownBlock = v.ownBlock ∨ v'.ownBlock = some w.heap.size) → wpList P ops Q rest (a.put o.dst v') w') : wpList P ops Q (o :: rest) a w := by
  obtain ⟨ie, hie, hz0, hsz, hb⟩ := info_parts hinfo
  have hcells : ∀ j u, (flat k ys)[j]? = some u → w.cell? ((Addr.mk g off none).add j) = some u := fun j u hu => by
    have hj := (List.getElem?_eq_some_iff.1 hu).1
    have hm0 : 0 < m := by
      rcases Nat.eq_zero_or_pos m with h0 | h0
      · have : ys = [] := List.eq_nil_of_length_eq_zero (by rw [hq.1, h0])
        rw [this] at hj
        simp [flat] at hj
      · exact h0
    obtain ⟨b, off', e, _, hc⟩ := hq.2.2 hm0
    injection e with e
    injection e with e1 e2
    subst e1
    subst e2
    rw [show (Addr.mk g off none).add j = ⟨g, off + j, none⟩ by (unfold Addr.add; split <;> simp_all)]
    exact hc j u hu
  refine wpList_append_own_at w hgd s x ts ho base e ie _ k.s bytes hu hie hz0 hsz hb hz k.pos v xs.length (flat k xs) hs hown ⟨g, off, none⟩ m c (flat k ys) hx (by rw [flat_length, hq.1]) hcells (flat_cell ys) (by unfold maxLen; omega)
    (Nat.le_trans (Nat.mul_le_mul hm hby) (by omega)) hbase ?_
  intro v' w' h1 h2 _ h4
  refine h v' w' ?_ h2 h4
  unfold OwnL
  rw [flat_append, List.length_append, hq.1]
  exact h1
theorem heap_setCells {g : Nat} {t : TypeId} : ∀ (vs : List Value) (q : Nat) (w : World) (cur : Array Value), w.heap[g]? = some (.cells cur t (0, 0)) → q + vs.length ≤ cur.size →
    ∃ cur', (w.setCells g q vs).heap[g]? = some (.cells cur' t (0, 0)) ∧ cur'.size = cur.size ∧ cur'.toList = cur.toList.take q ++ vs ++ cur.toList.drop (q + vs.length)
  | [], q, w, cur, h, _ => ⟨cur, h, rfl, by simp⟩
  | v :: r, q, w, cur, h, hl => by
    have hl' : q < cur.toList.length := by simp at hl ⊢; omega
    have hb : Blk (w.setCell ⟨g, q, none⟩ v) g t (cur.setIfInBounds q v) := Blk.set (w := w) (cs := cur) h q v
    obtain ⟨cur', h1, h2, h3⟩ := heap_setCells r (q + 1) (w.setCell ⟨g, q, none⟩ v) (cur.setIfInBounds q v) hb (by simp at hl ⊢; omega)
    refine ⟨cur', h1, by rw [h2]; simp, ?_⟩
    rw [h3]
    have e : (cur.setIfInBounds q v).toList = cur.toList.take q ++ v :: cur.toList.drop (q + 1) := by
      rw [Array.toList_setIfInBounds, List.set_eq_take_append_cons_drop, if_pos hl']
    have hq : (cur.toList.take q).length = q := by rw [List.length_take]; omega
    rw [e, List.take_append, hq, List.take_of_length_le (by omega), show q + 1 - q = 1 by omega, List.take_succ_cons, List.take_zero, List.drop_append, hq, List.drop_of_length_le (by omega), show q + 1 + r.length - q = r.length + 1 by omega, List.drop_succ_cons, List.drop_drop, List.nil_append, List.append_assoc, List.append_assoc]
    simp only [List.cons_append, List.nil_append, List.length_cons, List.append_assoc]
    rw [show q + 1 + r.length = q + (r.length + 1) by omega]
theorem grown_setCells (g : Nat) : ∀ (vs : List Value) (q : Nat) (w : World), w.grownBy (w.setCells g q vs) (some g)
  | [], _, w => World.grownBy.refl w _
  | v :: r, q, w => Lib.grownBy_trans (grown_setCell w g q v) (grown_setCells g r (q + 1) _)
theorem wpList_store_lst (hgd : o.guard = none) (e : TypeId) (x y : Operand) (ho : o.op = .store e x y) (hsz : (P.info? e).map (·.size) = some k.s) (base g n cap i : Nat) (xs : List α) (f : α) (hx : a.eval x = .pointer (some ⟨g, i * k.s, none⟩)) (hy : a.eval y = .agg (k.cells f).toArray)
    (hown : OwnL k e w base (.slice (some ⟨g, 0, none⟩) n cap) xs) (hi : i < xs.length)
    (h : ∀ w', OwnL k e w' base (.slice (some ⟨g, 0, none⟩) n cap) (xs.set i f) → w.grownBy w' (some g) → wpList P ops Q rest (a.put o.dst undef) w') : wpList P ops Q (o :: rest) a w := by
  rcases hown.2 with ⟨e', _⟩ | ⟨g', cap', cur, e', hb, hg, hnc, hcm, hcs, ht⟩
  · cases e'
  · injection e' with e1 e2 e3
    injection e1 with e1
    injection e1 with e1
    subst e1
    subst e3
    have hle : (i + 1) * k.s ≤ cap * k.s := Nat.mul_le_mul_right _ (by omega)
    have hle2 : (i + 1) * k.s ≤ xs.length * k.s := Nat.mul_le_mul_right _ (by omega)
    rw [Nat.add_mul, Nat.one_mul] at hle hle2
    have hth : w.there g (i * k.s) (k.cells f).toArray.size := fun j hj => by
      have hj' : j < k.s := by rw [List.size_toArray, k.len] at hj; exact hj
      refine ⟨?_, by simp [World.frozen?, hg]⟩
      rw [cell_of_row w g _ _ _ (0, 0) hg, Array.getElem?_eq_getElem (by omega)]
      rfl
    obtain ⟨cur', h1, h2, h3⟩ := heap_setCells (k.cells f) (i * k.s) w cur hg (by rw [k.len]; omega)
    refine wpList_store_mid hgd e x y ho g (i * k.s) (k.cells f).toArray hx hy hth (by rw [hsz, List.size_toArray, k.len]) (all_oneCell_toArray (k.one f)) (h _ ?_ (grown_setCells g _ _ _))
    refine ⟨flat_length k _, .inr ⟨g, cap, cur', by rw [List.length_set]; exact congrArg (fun n => Value.slice (some ⟨g, 0, none⟩) n cap) e2, hb, h1, by rw [List.length_set]; exact hnc, hcm, by rw [h2, hcs], ?_⟩⟩
    rw [List.length_set, h3, flat_set xs i f hi, ← ht, k.len]
    have hcl : cur.toList.length = cap * k.s := by simpa using hcs
    have hl : xs.length * k.s ≤ cur.toList.length := by rw [hcl]; exact Nat.mul_le_mul_right _ hnc
    apply List.ext_getElem?
    intro j
    have hc0 : (k.cells f).length = k.s := k.len f
    have ha : (cur.toList.take (i * k.s)).length = i * k.s := by rw [List.length_take]; omega
    have ha2 : ((cur.toList.take (xs.length * k.s)).take (i * k.s)).length = i * k.s := by rw [List.length_take, List.length_take]; omega
    rw [List.getElem?_take]
    simp only [List.append_assoc, List.getElem?_append, ha, ha2, hc0, List.getElem?_take, List.getElem?_drop]
    by_cases hj : j < xs.length * k.s
    · rw [if_pos hj]
      by_cases h4 : j < i * k.s
      · rw [if_pos h4, if_pos h4, if_pos h4, if_pos h4, if_pos hj]
      · rw [if_neg h4, if_neg h4]
        by_cases h5 : j - i * k.s < k.s
        · rw [if_pos h5, if_pos h5]
        · rw [if_neg h5, if_neg h5, if_pos (by omega)]
    · rw [if_neg hj, if_neg (by omega), if_neg (by omega), if_neg (by omega)]
end
end Go.Proofs.Ytbhgonnonhiocaa.Sl
namespace Go.Proofs.Ytbhgonnonhiocaa.Sl
open Go.RowKit Go.Shelf Mem Held
section
variable {α : Type} {k : St α}
theorem lst_take {w : World} {B n : Nat} {A : Option Addr} {xs : List α} (h : Lst k w B A n xs) (m : Nat) (hm : m ≤ n) : Lst k w B A m (xs.take m) := by
  refine ⟨by rw [List.length_take, h.1]; omega, fun x hx => h.2.1 x (List.mem_of_mem_take hx), fun h0 => ?_⟩
  obtain ⟨b, off, e, hb, hc⟩ := h.2.2 (by omega)
  refine ⟨b, off, e, hb, fun j v hv => hc j v ?_⟩
  have e2 := flat_take (k := k) xs m (by rw [h.1]; exact hm)
  rw [← e2, List.getElem?_take] at hv
  split at hv
  · exact hv
  · cases hv
end
section
variable {α : Type} {k : St α} {P : Program} {ops : Array Oper} {rest : List Oper} {o : Oper} {a : Act} {w : World} {Q : Exit → Act → World → Prop}
end
theorem run_front_s {P : Program} {t e : TypeId} (sz : Nat) (ht : P.underlying t = some (.slice e)) (hs : (P.info? e).map (·.size) = some sz) (g off n cap : Nat) {h : Nat} (hh : h ≤ cap) (w : World) :
    (Instr.sliceAt t (.slice (some ⟨g, off, none⟩) n cap) none (some (.int .i64 (h : Int))) none).run P w = .ok (.slice (some ⟨g, off, none⟩) h cap) w := by
  have he : P.elem t = e := by simp [Program.elem, ht]
  have ht' : P.underlying t = some (.slice (P.elem t)) := by rw [he]; exact ht
  obtain ⟨inf, hi, h1⟩ := Option.map_eq_some_iff.1 hs
  have hz : (sizeOf e).run P w = .ok sz w := by simp [sizeOf, typeInfo, hi, h1]
  rw [run_sliceAt_slice w t _ _ _ _ ht', run_slice_h w t _ n cap ht' .i64 _ (by omega) (by omega), he, hz]
  simp only [Result.andThen, sliced, Nat.sub_zero, Int.toNat_natCast, Nat.zero_mul]
  congr 2
  split
  · rfl
  · simp [Addr.add]
theorem run_back_s {P : Program} {t e : TypeId} (sz : Nat) (ht : P.underlying t = some (.slice e)) (hs : (P.info? e).map (·.size) = some sz) (g off n cap : Nat) {l : Nat} (hl : l ≤ n) (hc : l < cap) (w : World) :
    (Instr.sliceAt t (.slice (some ⟨g, off, none⟩) n cap) (some (.int .i64 (l : Int))) none none).run P w = .ok (.slice (some ⟨g, off + l * sz, none⟩) (n - l) (cap - l)) w := by
  have he : P.elem t = e := by simp [Program.elem, ht]
  have ht' : P.underlying t = some (.slice (P.elem t)) := by rw [he]; exact ht
  obtain ⟨inf, hi, h1⟩ := Option.map_eq_some_iff.1 hs
  have hz : (sizeOf e).run P w = .ok sz w := by simp [sizeOf, typeInfo, hi, h1]
  have hne : ¬ cap = l := by omega
  rw [run_sliceAt_slice w t _ _ _ _ ht', run_slice_l w t _ n cap ht' .i64 _ (by omega) (by omega), he, hz]
  simp [Result.andThen, sliced, Addr.add, hne]
end Go.Proofs.Ytbhgonnonhiocaa.Sl
namespace Go.Proofs.Ytbhgonnonhiocaa.Sl
open Go.RowKit Go.Shelf Mem Held
section
variable {P : Program} {S : World → Prop} {ρ : Operand → Value} {o : Oper}
end
section
variable {α : Type} {k : St α} {P : Program} {ops : Array Oper} {rest : List Oper} {o : Oper} {a : Act} {w : World} {Q : Exit → Act → World → Prop}
end
end Go.Proofs.Ytbhgonnonhiocaa.Sl
namespace Go.Proofs.Ytbhgonnonhiocaa.Sl
open Go.RowKit Go.Shelf Mem Held
section
variable {α : Type} {k : St α} {P : Program} {ops : Array Oper} {o : Oper} {a : Act} {w : World} {Q : Exit → Act → World → Prop}
theorem op_alloc_blk (i : Nat) (d : Option Tmp) {K : Act → World → Prop} (ty : TypeId) (cs : Array Value) (hi : ops[i]? = some o) (hd : o.dst = d) (hw : Region.wanted o (yielded ops a.tmps) = true)
    (ho : o.op = .alloc ty) (hz : (P.info? ty).bind (·.zero) = some (.agg cs))
    (h : ∀ g w', Blk w' g ty cs → Below w.heap.size w w' → Hid (w.heap.size ≤ g) → K (a.put d (.pointer (some ⟨g, 0, none⟩))) w') : wpOp P ops Q i K a w := by
  subst hd
  refine op_wp i hi hw ?_
  unfold Oper.wp execOp
  simp only [ho, run_alloc_blk ty cs hz, Sem.run_bind, Sem.run_pure, Result.andThen_ok]
  exact h _ _ (heap_alloc_new w _) ((Below.refl _ w).alloc (Nat.le_refl _) _) (Lib.hid (Nat.le_refl _))
end
end Go.Proofs.Ytbhgonnonhiocaa.Sl
namespace Go.Proofs.Ytbhgonnonhiocaa.Sl
open Go.RowKit Go.Shelf Mem Held
section
variable {α : Type} {k : St α} {P : Program} {ops : Array Oper} {o : Oper} {a : Act} {w : World} {Q : Exit → Act → World → Prop}
end
end Go.Proofs.Ytbhgonnonhiocaa.Sl
