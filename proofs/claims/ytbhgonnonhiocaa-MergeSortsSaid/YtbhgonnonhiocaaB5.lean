/-
  Where every activation may run, what is shown of one operation without a fence holds within a round, and within an iterator, too: no program here.
  Package bitonic's iterator over a round's pairs, by its contract: it hands out the first places, rising, each with the second one.
  dominohelp.Stops of package bitonic's iterator: told to stop behind so many pairs it hands out no more.
  A region that draws its order and in the end stores into what it has loaded: what is loaded ahead of a store that waits for it may be taken first, as long as a condition holds till that store.
  dominohelp.Seq2 of package bitonic's iterator: the first places of a round's pairs, and the second ones, as two lists of the call's own.
  dominohelp.Seq2 of package bitonic's iterator, by its contract.
  dominohelp.Plain of lists of numbers, and the document's own answers for package bitonic, by their contracts.
  The document's own answers for package bitonic: which stage and step a round is, which pairs it has, and which of them are up, by their contracts.
  Package merge's iterator over every other place, by its contract: it hands out the places f, f + 2, .., till there is none or it is told to stop.
  The functions Same and Plain of package dominohelp on records, by their contracts.
  The functions Own and Kept of package dominohelp on records, by their contracts.
-/
import Derived.Test.YtbhgonnonhiocaaB2
import Derived.Test.YtbhgonnonhiocaaB4
import Derived.Test.YtbhgonnonhiocaaB3
import Derived.Test.YtbhgonnonhiocaaB1
import Derived.OwnWalk
import Derived.Lib.BufferOwn
import Derived.Maps.AppendAt
import Derived.Great.BuildSlice
set_option linter.unusedVariables false
namespace Go.Proofs.Ytbhgonnonhiocaa.Held
open Go.RowKit
section
variable {P : Program} {ops : Array Oper} {Q Q' : Exit → Act → World → Prop} {n : Nat} {r : Option Nat} {rest : List Oper} {o : Oper} {a : Act} {w : World}
theorem opIn_wide (ho : ∀ c, o.op ≠ .defer c) (hp : ∀ ch a w, ¬ Q' (.panic ch) a w) (hl : ¬ LetsOut Q') {K : Act → World → Prop} (h : o.wp P a w K Q') : o.wpIn (wideR r) n P a w K Q := by
  refine ⟨fun _ _ => trivial, ?_⟩
  rw [Oper.semAt_plain (wideR r) _ _ ho]
  unfold Oper.wp at h
  generalize (execOp a.eval o).run P w = x at h
  cases x with
  | ok y w' =>
    cases y with
    | value v => exact h
    | skip => exact h
    | «defer» d => exact h
    | enter f args =>
      refine ⟨fun hd => absurd (show false = true from hd) (by simp), (calls_wideR (r := r) h).mono fun e w'' he => ?_⟩
      cases e
      · exact he
      · exact (hp _ _ _ he).elim
      · exact (hl he).elim
    | row row args => exact ⟨fun hd => absurd (show false = true from hd) (by simp), rows_wideR h⟩
    | _ => exact h.elim
  | halt y w' =>
    cases y <;> first | exact h.elim | exact (hp _ _ _ h).elim
theorem wpListIn_one {F : Fence} (hF : F = wideR r) (ho : ∀ c, o.op ≠ .defer c) (h : wpList P ops (fun e a' w' => e = .normal ∧ wpListIn F n P ops Q rest a' w') [o] a w) : wpListIn F n P ops Q (o :: rest) a w := by
  subst hF
  unfold wpList at h
  unfold wpListIn
  split
  · rename_i hw
    simp only [hw, if_true] at h
    rcases h with h | ⟨_, a', w', hx⟩
    · refine Oper.wpIn_mono (fun a' w' h' => ?_) (opIn_wide ho (fun ch a w hx => by cases hx.1) (fun ⟨a, w, hx⟩ => by cases hx.1) h)
      exact h'.2
    · cases hx.1
  · rename_i hw
    simp only [hw] at h
    exact ⟨fun _ _ => trivial, h.2⟩
end
end Go.Proofs.Ytbhgonnonhiocaa.Held
namespace Go.Proofs.Ytbhgonnonhiocaa.Bi
open Go.RowKit Go.Shelf Go.Proofs.Ytbhgonnonhiocaa Mem Held Go.Proofs.Ytbhgonnonhiocaa.Range
attribute [local go_sem] Oper.semAt_some
attribute [local irreducible] wpList wpListIn Calls
theorem Found.is {n : Int} {r : Int} {s t : Nat} {ok : Bool} (h : Found (stg n) r s t ok) (ho : ok = true) : n = ((2 ^ stg n : Nat) : Int) ∧ 1 ≤ t ∧ t ≤ s ∧ s ≤ stg n ∧ stg n ≤ 16 := by
  have h16 := stg_le n
  rcases h with ⟨_, h2⟩ | ⟨h1, _⟩
  · have := h2.t1
    have := h2.ts
    have := h2.sS
    rcases stg_is n with e | ⟨e, _⟩
    · exact ⟨by rw [← two_nat]; exact e, by omega, by omega, by omega, h16⟩
    · omega
  · rw [ho] at h1; cases h1
end Go.Proofs.Ytbhgonnonhiocaa.Bi
namespace Go.Proofs.Ytbhgonnonhiocaa.Bi
open Go.RowKit Go.Shelf Go.Proofs.Ytbhgonnonhiocaa Mem Held Go.Proofs.Ytbhgonnonhiocaa.Range
attribute [local go_sem] Oper.semAt_some
attribute [local irreducible] wpList wpListIn Calls
end Go.Proofs.Ytbhgonnonhiocaa.Bi
namespace Go.Proofs.Ytbhgonnonhiocaa.Held
open Go.RowKit
section
variable {P : Program} {ops : Array Oper} {Q : Exit → Act → World → Prop} {md : Region.Mode} {T : World → Prop} {s : Nat}
theorem not_yet {listed : Array Bool} {j : Nat} {oj : Oper} (hj : j ∈ Region.ready md ops listed) (ho : ops[j]? = some oj) {e : Edge} (he : e ∈ oj.after) (hb : Region.binds md e = true) : listed.getD e.on true ≠ false := fun hx => by
  obtain ⟨_, o, h1, h2⟩ := mem_ready.1 hj
  obtain rfl : o = oj := by rw [h1] at ho; exact Option.some.inj ho
  have := h2 e he hb
  by_cases c : e.on < listed.size
  · simp [c] at hx this; exact absurd (this.symm.trans hx) (by simp)
  · simp [Array.getElem?_eq_none (Nat.le_of_not_lt c)] at this
structure Early (md : Region.Mode) (ops : Array Oper) (B : List Nat) (i : Nat) (oi : Oper) (listed : Array Bool) : Prop where
  ready : i ∈ Region.ready md ops listed
  free : ∀ j oj, ops[j]? = some oj → j ≠ i → listed.getD j true = false → (∀ e ∈ oj.after, Region.binds md e = true → e.on ≠ i) → oi.apart ops oj = true
  late : ∀ b ∈ B, listed.getD b true = false
def Waits (md : Region.Mode) (ops : Array Oper) (B : List Nat) (i : Nat) : Prop := i ∉ B ∧ ∀ b ∈ B, ∀ o, ops[b]? = some o → ∃ e ∈ o.after, Region.binds md e = true ∧ (e.on = i ∨ e.on ∈ B)
section
variable {B : List Nat} {i : Nat} {oi : Oper} {listed : Array Bool}
theorem Early.un (h : Early md ops B i oi listed) : listed.getD i true = false := (mem_ready.1 h.ready).1
theorem Early.waits (h : Early md ops B i oi listed) {j : Nat} {oj : Oper} (hj : j ∈ Region.ready md ops listed) (ho : ops[j]? = some oj) : ∀ e ∈ oj.after, Region.binds md e = true → e.on ≠ i :=
  fun e he hb heq => not_yet hj ho he hb (by rw [heq]; exact h.un)
theorem Early.out (h : Early md ops B i oi listed) (hw : Waits md ops B i) {j : Nat} (hj : j ∈ Region.ready md ops listed) : j ∉ B := fun hjB => by
  obtain ⟨_, oj, ho, _⟩ := mem_ready.1 hj
  obtain ⟨e, he, hb, hor⟩ := hw.2 j hjB oj ho
  rcases hor with h1 | h1
  · exact h.waits hj ho e he hb h1
  · exact not_yet hj ho he hb (h.late _ h1)
end
end
end Go.Proofs.Ytbhgonnonhiocaa.Held
namespace Go.Proofs.Ytbhgonnonhiocaa.Bi
open Go.RowKit Go.Shelf Go.Proofs.Ytbhgonnonhiocaa Mem Held Go.Proofs.Ytbhgonnonhiocaa.Range
attribute [local go_sem] Oper.semAt_some
attribute [local irreducible] wpList wpListIn Calls
theorem own_obj {w : World} {base : Nat} {t : TypeId} {k : IntKind} {v : Value} {zs : List Int} (h : Mem.Own w base t k v zs) {b : Nat} (e : v.ownBlock = some b) : ∃ cs fz, w.heap[b]? = some (.cells cs t fz) := by
  rcases h.2.2 with ⟨rfl, _⟩ | ⟨g, cap, cur, rfl, hb, hg, _⟩
  · simp [Value.ownBlock] at e
  · simp [Value.ownBlock] at e
    subst e
    exact ⟨_, _, hg⟩
theorem own_ne {w : World} {base : Nat} {t : TypeId} {k : IntKind} {v : Value} {zs : List Int} (h : Mem.Own w base t k v zs) {row : Option Nat} (hr : ∀ r, row = some r → ∃ o : Obj, w.heap[r]? = some o ∧ o.isCells = false) : v.ownBlock = none ∨ v.ownBlock ≠ row := by
  cases hq : v.ownBlock with
  | none => exact .inl rfl
  | some b =>
    refine .inr fun e => ?_
    obtain ⟨o, ho, hc⟩ := hr b e.symm
    obtain ⟨cs, fz, h2⟩ := own_obj h hq
    rw [h2] at ho
    cases ho
    cases hc
structure Two (w V : World) (B gx gy : Nat) (ux uy vx vy : Value) (xs ys : List Int) (W : World) : Prop where
  lx : gx < B
  ly : gy < B
  ne : gx ≠ gy
  hx : w.heap.size ≤ gx
  hy : w.heap.size ≤ gy
  cx : W.heap[gx]? = some (.cells #[ux] 38 (0, 0))
  cy : W.heap[gy]? = some (.cells #[uy] 38 (0, 0))
  ox : Mem.Own W B 3 .i64 vx xs
  oy : Mem.Own W B 3 .i64 vy ys
  ap : ∀ b, vx.ownBlock = some b → vy.ownBlock ≠ some b
  low : ∀ b, b < B → b ≠ gx → b ≠ gy → W.heap[b]? = V.heap[b]?
  bel : Below w.heap.size w W
  sz : B ≤ W.heap.size
section
variable {w V W W' : World} {B gx gy : Nat} {ux uy vx vy : Value} {xs ys : List Int}
theorem Two.keep (h : Two w V B gx gy ux uy vx vy xs ys W) {row : Option Nat} (hg : W.grownBy W' row) (hr : ∀ r, row = some r → B ≤ r ∧ ∃ o : Obj, W.heap[r]? = some o ∧ o.isCells = false) : Two w V B gx gy ux uy vx vy xs ys W' := by
  have hne : ∀ i, i < B → some i ≠ row := fun i hi e => by have := (hr i e.symm).1; omega
  have hr2 := fun r e => (hr r e).2
  refine ⟨h.lx, h.ly, h.ne, h.hx, h.hy, Held.keep_cells h.cx hg (hne _ h.lx), Held.keep_cells h.cy hg (hne _ h.ly), h.ox.kept hg (own_ne h.ox hr2), h.oy.kept hg (own_ne h.oy hr2), h.ap, fun b hb h1 h2 => ?_, h.bel.grown hg (by have := h.sz; have := h.hx; have := h.lx; omega) (fun r e => by have := (hr r e).1; have := h.hx; have := h.lx; omega), Nat.le_trans h.sz hg.size⟩
  exact (hg.block b (Nat.lt_of_lt_of_le hb h.sz) (hne b hb)).trans (h.low b hb h1 h2)
theorem Two.after (h : Two w V B gx gy ux uy vx vy xs ys W) (hb : Below W.heap.size W W') : Two w V B gx gy ux uy vx vy xs ys W' := h.keep (grown_of_below hb none) (fun r e => by cases e)
end
section
variable {P : Program} {ops : Array Oper} {Q : Exit → Act → World → Prop}
end
theorem wf_i64 {z : Int} (h : -9223372036854775808 ≤ z) (h' : z ≤ 9223372036854775807) : (Lit.int .i64 z).wf = true := by simp [Lit.wf, IntKind.min, IntKind.max, IntKind.signed, IntKind.bits]; omega
end Go.Proofs.Ytbhgonnonhiocaa.Bi
namespace Go.Proofs.Ytbhgonnonhiocaa.Bi
open Go.RowKit Go.Shelf Go.Proofs.Ytbhgonnonhiocaa Mem Held Go.Proofs.Ytbhgonnonhiocaa.Range
attribute [local go_sem] Oper.semAt_some
attribute [local irreducible] wpList wpListIn Calls
def xsOf (l : List Nat) : List Int := l.map fun (a : Nat) => (a : Int)
def ysOf (t : Nat) (l : List Nat) : List Int := l.map fun (a : Nat) => (a : Int) + 2 ^ (t - 1)
def I2 (w V : World) (B gx gy t : Nat) (pre : List Nat) (W : World) : Prop := ∃ vx vy, Two w V B gx gy vx vy vx vy (xsOf pre) (ysOf t pre) W
theorem I2.from (w V : World) (B gx gy t : Nat) : OwnFrom B (I2 w V B gx gy t) := fun pre W W' row h hg hr => by
  obtain ⟨vx, vy, h⟩ := h
  exact ⟨vx, vy, h.keep hg hr⟩
end Go.Proofs.Ytbhgonnonhiocaa.Bi
namespace Go.Proofs.Ytbhgonnonhiocaa.Bi
open Go.RowKit Go.Shelf Go.Proofs.Ytbhgonnonhiocaa Mem Held Help Go.Proofs.Ytbhgonnonhiocaa.Range
attribute [local go_sem] Oper.semAt_some
attribute [local irreducible] wpList wpListIn Calls
end Go.Proofs.Ytbhgonnonhiocaa.Bi
namespace Go.Proofs.Ytbhgonnonhiocaa.Bi
open Go.RowKit Go.Shelf Go.Proofs.Ytbhgonnonhiocaa Mem Held Help Go.Proofs.Ytbhgonnonhiocaa.Range
attribute [local go_sem] Oper.semAt_some
attribute [local irreducible] wpList wpListIn Calls
section
variable {P : Program} {S : World → Prop} {ρ : Operand → Value} {o : Oper} {t ty : TypeId} {x y : Operand} {k k' : IntKind} {r : Int}
theorem y_rem (a b : Int) (ho : o.op = .binOp .rem t x y ty) (hx : ρ x = .int k a) (hy : ρ y = .int k b) (hr : ∀ w : World, (binOp .rem t (.int k a) (.int k b)).run P w = .ok (.int k r) w) : ∀ w, S w → (execOp ρ o).run P w = .ok (.value (.int k r)) w := Held.y_int ho hx hy hr
theorem y_sub (a b : Int) (ho : o.op = .binOp .sub t x y ty) (hx : ρ x = .int k a) (hy : ρ y = .int k b) (hr : k.wrap (a - b) = r) : ∀ w, S w → (execOp ρ o).run P w = .ok (.value (.int k r)) w := Held.y_int ho hx hy (Held.run_sub t k hr)
end
theorem rem_of {a : Int} (ha : 0 ≤ a) : a.tmod 2 = a % 2 := Int.tmod_eq_emod_of_nonneg ha
end Go.Proofs.Ytbhgonnonhiocaa.Bi
namespace Go.Proofs.Ytbhgonnonhiocaa.Mg
open Go.RowKit Go.Shelf Go.Proofs.Ytbhgonnonhiocaa Mem Held Go.Proofs.Ytbhgonnonhiocaa.Range
attribute [local go_sem] Oper.semAt_some
attribute [local irreducible] wpList wpListIn Calls
theorem other_any (f n : Int) (w : World) :
    Calls Try.prog 27 #[.int .i64 f, .int .i64 n] w fun e w' => ∃ bf bn : Nat, e = .returned (.func (.func 35) #[] #[.pointer (some ⟨bn, 0, none⟩), .pointer (some ⟨bf, 0, none⟩)]) ∧ Blk w' bf 3 #[.int .i64 f] ∧ Blk w' bn 3 #[.int .i64 n] ∧ w.heap.size ≤ bf ∧ w.heap.size ≤ bn ∧ Below w.heap.size w w' := by
  go_enter Try.func27, Try.ntmps27
  go_wp2_with (first
    | (refine Held.wpList_box_cell (w := w) rfl 3 _ rfl (.int .i64 f) rfl rfl ?_; intro w1 q1 g1 z1)
    | (refine Held.wpList_box_cell (w := w1) rfl 3 _ rfl (.int .i64 n) rfl rfl ?_; intro w2 q2 g2 z2))
  have q1 := Blk.grown q1 g2 (by simp)
  go_ret
  exact ⟨_, _, rfl, q1, q2, Nat.le_refl _, g1.size, ((Below.refl _ w).grown g1 (Nat.le_refl _) (by simp)).grown g2 g1.size (by simp)⟩
def atP (f n : Nat) (k : Nat) : Option Nat := if f + 2 * k < n then some (f + 2 * k) else none
def encP (x : Nat) : Array Value := #[.int .i64 (x : Int)]
theorem atP_some {f n k x : Nat} (h : atP f n k = some x) : x = f + 2 * k ∧ f + 2 * k < n := by
  unfold atP at h
  split at h
  · rename_i hk
    injection h with h
    exact ⟨h.symm, hk⟩
  · cases h
theorem atP_none {f n k : Nat} (h : atP f n k = none) : n ≤ f + 2 * k := by
  unfold atP at h
  split at h
  · cases h
  · omega
set_option maxRecDepth 100000 in
set_option maxHeartbeats 4000000 in
theorem places_stop (N bn bf : Nat) (S : Nat → Prop) (f n : Nat) (w : World) (hf : f ≤ 1) (hn : n ≤ 1073741824) (hbn : w.cell? ⟨bn, 0, none⟩ = some (.int .i64 (n : Int))) (hbf : w.cell? ⟨bf, 0, none⟩ = some (.int .i64 (f : Int))) (hSn : ¬ S bn) (hSf : ¬ S bf) :
    SeqStop Fence.wide N Try.prog 35 #[.pointer (some ⟨bn, 0, none⟩), .pointer (some ⟨bf, 0, none⟩)] encP (Only S) (atP f n) w := by
  intro l J Jx Nb W hW hJ hJx hN hY h0
  have kbn := (hW.cell (p := ⟨bn, 0, none⟩) (World.block_lt_of_cell? w _ hbn)).trans hbn
  have kbf := (hW.cell (p := ⟨bf, 0, none⟩) (World.block_lt_of_cell? w _ hbf)).trans hbf
  clear hbn hbf hW hJx
  refine callsIn_of_wp Try.func35 rfl trivial ?_ rfl
  simp only [Try.ntmps35, List.size_toArray, List.length_cons, List.length_nil, Nat.reduceAdd, Nat.reduceSub, Array.replicate_succ, Array.replicate_zero, List.push_toArray, List.append_toArray, List.nil_append, List.cons_append]
  gi_wp2_with fail
  gi_loopw [6] (fun i wr => ∃ p : Nat, p ≤ n ∧ i = .int .i64 p ∧ J ((p + 1 - f) / 2) wr ∧ Only S W wr) (fun i _ => n - (intOf i).toNat)
  case atStart => exact ⟨0, by omega, rfl, by rw [show (0 + 1 - f) / 2 = 0 by omega]; exact h0, Only.refl _ _⟩
  case round =>
    obtain ⟨p, hp, rfl, Jk, ok⟩ := hrel
    by_cases hlt : p < n
    · have kf := ok.cell (p := ⟨bf, 0, none⟩) hSf kbf
      have hlt' : (p : Int) < (n : Int) := by omega
      obtain ⟨r, hr⟩ : ∃ r, p % 2 = r := ⟨_, rfl⟩
      have hmod : ((p : Int)).tmod 2 = (r : Int) := by rw [Bi.rem_of (by omega)]; omega
      have hm := fun W => Held.run_rem (P := Try.prog) 3 .i64 (a := (p : Int)) (b := 2) (r := (r : Int)) (by omega) hmod W
      by_cases hb : r = f
      · have hk : f + 2 * ((p + 1 - f) / 2) = p := by omega
        have hYk := hY ((p + 1 - f) / 2) p wr Jk (by unfold atP; rw [hk, if_pos hlt])
        have hnx : (p + 1 - f) / 2 + 1 = (p + 1 + 1 - f) / 2 := by omega
        rw [hnx] at hYk
        obtain ⟨fn, tmps, assign, body, hy, hR⟩ := hYk
        have hy : (Instr.yield l #[.int .i64 (p : Int)]).run Try.prog wr = .ok (.round l fn tmps assign body) wr := hy
        clear hY hN hnx hk hmod hr
        subst hb
        gi_wp2_with (first
          | (refine Held.wpListIn_one (r := none) rfl (by intro c e; cases e) ?_; refine Held.wpList_run (w := wr) rfl (v := .int .i64 (r : Int)) (Bi.y_rem (S := fun _ => True) (p : Int) 2 rfl rfl rfl hm _ trivial) ?_; refine wpList_nil ⟨rfl, ?_⟩))
        refine ⟨fun h => (by cases h), ?_⟩
        refine hR.mono ?_
        rintro e W4 (⟨rfl, J4, o4⟩ | ⟨rfl, Jx4⟩)
        · have o5 := ok.trans o4
          clear hR hy o4 ok Jk
          gi_wp2_with fail
          go_roundw
          case rel => exact ⟨p + 1, by omega, by go_num, J4, o5⟩
          case measure => simp [intOf]; omega
        · gi_wp2_with fail
          exact bodyPost_ret (results_none rfl _ _ _) rfl ⟨⟨_, rfl⟩, .inr ⟨_, Jx4⟩⟩
      · have hnx : (p + 1 - f) / 2 = (p + 1 + 1 - f) / 2 := by omega
        rw [hnx] at Jk
        have hb' : ¬ (r : Int) = (f : Int) := by omega
        have hqf : decide ((r : Int) = (f : Int)) = false := by simp; omega
        clear hY hN hnx hmod hr hb hb'
        gi_wp2_with (first
          | (refine Held.wpListIn_one (r := none) rfl (by intro c e; cases e) ?_; refine Held.wpList_run (w := wr) rfl (v := .int .i64 (r : Int)) (Bi.y_rem (S := fun _ => True) (p : Int) 2 rfl rfl rfl hm _ trivial) ?_; refine wpList_nil ⟨rfl, ?_⟩)
          | (refine Held.wpListIn_one (r := none) rfl (by intro c e; cases e) ?_; refine Held.wpList_run (w := wr) rfl (v := .bool false) (Held.y_eqI (S := fun _ => True) rfl rfl rfl hqf _ trivial) ?_; refine wpList_nil ⟨rfl, ?_⟩; simp only [Act.put, Z1, Z2, Z3]))
        refine ⟨fun _ h => (by cases h), ?_⟩
        gi_wp2_with fail
        try refine ⟨fun _ h => (by cases h), ?_⟩
        gi_wp2_with fail
        go_roundw
        case rel => exact ⟨p + 1, by omega, by go_num, Jk, ok⟩
        case measure => simp [intOf]; omega
    · have hpn : p = n := by omega
      subst hpn
      gi_wp2_with fail
      go_end0
      exact ⟨⟨_, rfl⟩, .inl ⟨(p + 1 - f) / 2, by unfold atP; rw [if_neg (by omega)], Jk⟩⟩
end Go.Proofs.Ytbhgonnonhiocaa.Mg
namespace Go.Proofs.Ytbhgonnonhiocaa.Rs
open Go.RowKit Go.Shelf Go.Proofs.Ytbhgonnonhiocaa Mem Held Rc
attribute [local irreducible] wpList wpListIn Calls
theorem eqr_any (a b : R) (w : World) : Calls Try.prog 26 #[.agg #[.bool a.d, .int .i64 a.k, .int .i64 a.v, .int .i64 a.s], .agg #[.bool b.d, .int .i64 b.k, .int .i64 b.v, .int .i64 b.s]] w fun e w' => e = .returned (.bool (decide (a = b))) ∧ Below w.heap.size w w' := by
  have HR := Lib.hid (show decide (a.d = b.d ∧ a.k = b.k ∧ a.v = b.v ∧ a.s = b.s) = decide (a = b) from decide_eq_decide.2 R.iff.symm)
  go_enter Try.func26, Try.ntmps26
  go_wp2_with (first
    | (refine wpList_box_blk (w := w) rfl 26 _ rfl _ rfl ?_; intro w1 q1 g1 z1)
    | (refine wpList_box_blk (w := w1) rfl 26 _ rfl _ rfl ?_; intro w2 q2 g2 z2; have q1 := q1.grown g2 (by simp))
    | (refine wpList_load_blk (w := w2) rfl 26 _ rfl w.heap.size 4 rfl 26 _ q1 _ Try.underlying26 rfl (by kernel_rfl) rfl ?_)
    | (refine wpList_load_blk (w := w2) rfl 26 _ rfl w1.heap.size 4 rfl 26 _ q2 _ Try.underlying26 rfl (by kernel_rfl) rfl ?_)
    | (refine wpList_run rfl (v := .bool (decide (a = b))) (y_eqr (S := fun _ => True) rfl rfl rfl HR.out _ trivial) ?_))
  go_ret
  exact ⟨rfl, ((Below.refl _ w).grown g1 (Nat.le_refl _) (by simp)).grown g2 g1.size (by simp)⟩
theorem take_stepR {xs ys : List R} {k : Nat} (hx : k < xs.length) (hy : k < ys.length) (h : xs.take k = ys.take k) (e : xs.getD k R0 = ys.getD k R0) : xs.take (k + 1) = ys.take (k + 1) := by
  rw [List.take_add_one, List.take_add_one, h]
  simp only [List.getD_eq_getElem?_getD, List.getElem?_eq_getElem hx, List.getElem?_eq_getElem hy, Option.getD_some] at e
  rw [List.getElem?_eq_getElem hx, List.getElem?_eq_getElem hy, e]
set_option maxRecDepth 100000 in
set_option maxHeartbeats 4000000 in
theorem same_any (B B' : Nat) (A A' : Option Addr) (n n' c c' : Nat) (rs rs' : List R) (w : World) (h : Recs w B A n rs) (h' : Recs w B' A' n' rs') (hB : B ≤ w.heap.size) (hB' : B' ≤ w.heap.size) (hn : n ≤ 1073741824) (hn' : n' ≤ 1073741824) :
    Calls Try.prog 25 #[.slice A n c, .slice A' n' c', .func (.func 26) #[] #[]] w fun e w' => e = .returned (.bool (decide (rs = rs'))) ∧ Below w.heap.size w w' := by
  by_cases hnn : n = n'
  · subst hnn
    have hne : ((n : Int) != (n : Int)) = false := by simp
    have HL := Lib.hid h.1
    have HL' := Lib.hid h'.1
    go_enter Try.func25, Try.ntmps25
    go_wp2_with fail
    go_loopw [7] (fun i wr => ∃ k : Nat, k ≤ n ∧ i = .int .i64 k ∧ Below w.heap.size w wr ∧ Hid (rs.take k = rs'.take k)) (fun i _ => n - (intOf i).toNat)
    case atStart => exact ⟨0, by omega, rfl, Below.refl _ _, Lib.hid rfl⟩
    case round =>
      obtain ⟨k, hk, rfl, hst, ht⟩ := hrel
      have hBk := Nat.le_trans hB hst.size
      have hBk' := Nat.le_trans hB' hst.size
      by_cases hlt : k < n
      · obtain ⟨b, off, rfl, hb, hx⟩ := (h.below (hst.mono hB)).at_ hlt
        obtain ⟨b', off', rfl, hb', hy⟩ := (h'.below (hst.mono hB')).at_ hlt
        have hlt' : (k : Int) < (n : Int) := by omega
        have hk0 : (0 : Int) ≤ (k : Int) := by omega
        by_cases hq0 : rs.getD k R0 = rs'.getD k R0
        · have HT := Lib.hid (take_stepR (by have := HL.out; omega) (by have := HL'.out; omega) ht.out hq0)
          have hq : decide (rs.getD k R0 = rs'.getD k R0) = true := by simpa using hq0
          clear hq0
          generalize rs.getD k R0 = x at hx hq
          generalize rs'.getD k R0 = y at hy hq
          go_wp2_with fail
          refine wp_region_held (S := fun W => Below wr.heap.size wr W) (by kernel_rfl) ?_
          change wpAnyH _ _ _ _ _ _ _ _ wr.drew
          have c0_0 := (Below.refl wr.heap.size wr).drew
          refine Held.tk (v := .func (.func 26) #[] #[]) 0 (some 19) rfl (Held.y_move rfl rfl) c0_0 ?_
          simp only [Act.put, Z1, Z2, Z3]
          refine Held.tk (v := .slice (some ⟨b, off, none⟩) n c) 1 (some 20) rfl (Held.y_move rfl rfl) c0_0 ?_
          simp only [Act.put, Z1, Z2, Z3]
          refine Held.tk (v := .int .i64 (k : Int)) 2 (some 21) rfl (Held.y_move rfl rfl) c0_0 ?_
          simp only [Act.put, Z1, Z2, Z3]
          refine Held.tk (v := .pointer (some ⟨b, off + k * 4, none⟩)) 3 (some 22) rfl (Held.y_addr rfl rfl rfl (run_addr_of 22 26 b off n c k 4 .i64 Try.underlying22 (by kernel_rfl) hlt)) c0_0 ?_
          simp only [Act.put, Z1, Z2, Z3]
          refine Held.tk (v := .agg #[.bool x.d, .int .i64 x.k, .int .i64 x.v, .int .i64 x.s]) 4 (some 23) rfl (y_load_range (n := 4) (cs := x.cells) rfl rfl Try.underlying26 rfl (by kernel_rfl) rfl (fun W hW => range_below hx hW (Nat.lt_of_lt_of_le hb hBk))) c0_0 ?_
          simp only [Act.put, Z1, Z2, Z3]
          refine Held.tk (v := .slice (some ⟨b', off', none⟩) n c') 5 (some 24) rfl (Held.y_move rfl rfl) c0_0 ?_
          simp only [Act.put, Z1, Z2, Z3]
          refine Held.tk (v := .int .i64 (k : Int)) 6 (some 25) rfl (Held.y_move rfl rfl) c0_0 ?_
          simp only [Act.put, Z1, Z2, Z3]
          refine Held.tk (v := .pointer (some ⟨b', off' + k * 4, none⟩)) 7 (some 26) rfl (Held.y_addr rfl rfl rfl (run_addr_of 22 26 b' off' n c' k 4 .i64 Try.underlying22 (by kernel_rfl) hlt)) c0_0 ?_
          simp only [Act.put, Z1, Z2, Z3]
          refine Held.tk (v := .agg #[.bool y.d, .int .i64 y.k, .int .i64 y.v, .int .i64 y.s]) 8 (some 27) rfl (y_load_range (n := 4) (cs := y.cells) rfl rfl Try.underlying26 rfl (by kernel_rfl) rfl (fun W hW => range_below hy hW (Nat.lt_of_lt_of_le hb' hBk'))) c0_0 ?_
          simp only [Act.put, Z1, Z2, Z3]
          refine Held.one 9 (by kernel_rfl) ?_
          refine Rs.op_callv 9 (some 28) 26 #[] #[.agg #[.bool x.d, .int .i64 x.k, .int .i64 x.v, .int .i64 x.s], .agg #[.bool y.d, .int .i64 y.k, .int .i64 y.v, .int .i64 y.s]] rfl rfl rfl rfl rfl (enters_of Try.func26 (by kernel_rfl) rfl) (by simp [Act.eval])
            (by have := eqr_any x y wr.drew; rwa [hq] at this) ?_
          rintro e w1 ⟨rfl, b1⟩
          have c0_1 := c0_0.trans (b1.mono c0_0.size)
          refine ⟨_, rfl, c0_1, ?_⟩
          simp only [Act.put, Z1, Z2, Z3]
          refine Held.tk (v := .bool false) 10 (some 29) rfl (Held.y_not rfl rfl rfl) c0_1 ?_
          simp only [Act.put, Z1, Z2, Z3]
          refine wpAnyH_done (by kernel_rfl) ?_ _
          have dz := hst.trans (c0_1.mono hst.size)
          generalize w1 = wz at dz ⊢
          clear hx hy c0_1
          go_wp2_with fail
          go_roundw
          case rel => exact ⟨k + 1, by omega, by go_num, dz, HT⟩
          case measure => simp [intOf]; omega
        · have HF := Lib.hid (show decide (rs = rs') = false by
            rw [decide_eq_false_iff_not]; intro e; exact hq0 (by rw [e]))
          have hq : decide (rs.getD k R0 = rs'.getD k R0) = false := by simpa using hq0
          clear hq0
          generalize rs.getD k R0 = x at hx hq
          generalize rs'.getD k R0 = y at hy hq
          go_wp2_with fail
          refine wp_region_held (S := fun W => Below wr.heap.size wr W) (by kernel_rfl) ?_
          change wpAnyH _ _ _ _ _ _ _ _ wr.drew
          have c0_0 := (Below.refl wr.heap.size wr).drew
          refine Held.tk (v := .func (.func 26) #[] #[]) 0 (some 19) rfl (Held.y_move rfl rfl) c0_0 ?_
          simp only [Act.put, Z1, Z2, Z3]
          refine Held.tk (v := .slice (some ⟨b, off, none⟩) n c) 1 (some 20) rfl (Held.y_move rfl rfl) c0_0 ?_
          simp only [Act.put, Z1, Z2, Z3]
          refine Held.tk (v := .int .i64 (k : Int)) 2 (some 21) rfl (Held.y_move rfl rfl) c0_0 ?_
          simp only [Act.put, Z1, Z2, Z3]
          refine Held.tk (v := .pointer (some ⟨b, off + k * 4, none⟩)) 3 (some 22) rfl (Held.y_addr rfl rfl rfl (run_addr_of 22 26 b off n c k 4 .i64 Try.underlying22 (by kernel_rfl) hlt)) c0_0 ?_
          simp only [Act.put, Z1, Z2, Z3]
          refine Held.tk (v := .agg #[.bool x.d, .int .i64 x.k, .int .i64 x.v, .int .i64 x.s]) 4 (some 23) rfl (y_load_range (n := 4) (cs := x.cells) rfl rfl Try.underlying26 rfl (by kernel_rfl) rfl (fun W hW => range_below hx hW (Nat.lt_of_lt_of_le hb hBk))) c0_0 ?_
          simp only [Act.put, Z1, Z2, Z3]
          refine Held.tk (v := .slice (some ⟨b', off', none⟩) n c') 5 (some 24) rfl (Held.y_move rfl rfl) c0_0 ?_
          simp only [Act.put, Z1, Z2, Z3]
          refine Held.tk (v := .int .i64 (k : Int)) 6 (some 25) rfl (Held.y_move rfl rfl) c0_0 ?_
          simp only [Act.put, Z1, Z2, Z3]
          refine Held.tk (v := .pointer (some ⟨b', off' + k * 4, none⟩)) 7 (some 26) rfl (Held.y_addr rfl rfl rfl (run_addr_of 22 26 b' off' n c' k 4 .i64 Try.underlying22 (by kernel_rfl) hlt)) c0_0 ?_
          simp only [Act.put, Z1, Z2, Z3]
          refine Held.tk (v := .agg #[.bool y.d, .int .i64 y.k, .int .i64 y.v, .int .i64 y.s]) 8 (some 27) rfl (y_load_range (n := 4) (cs := y.cells) rfl rfl Try.underlying26 rfl (by kernel_rfl) rfl (fun W hW => range_below hy hW (Nat.lt_of_lt_of_le hb' hBk'))) c0_0 ?_
          simp only [Act.put, Z1, Z2, Z3]
          refine Held.one 9 (by kernel_rfl) ?_
          refine Rs.op_callv 9 (some 28) 26 #[] #[.agg #[.bool x.d, .int .i64 x.k, .int .i64 x.v, .int .i64 x.s], .agg #[.bool y.d, .int .i64 y.k, .int .i64 y.v, .int .i64 y.s]] rfl rfl rfl rfl rfl (enters_of Try.func26 (by kernel_rfl) rfl) (by simp [Act.eval])
            (by have := eqr_any x y wr.drew; rwa [hq] at this) ?_
          rintro e w1 ⟨rfl, b1⟩
          have c0_1 := c0_0.trans (b1.mono c0_0.size)
          refine ⟨_, rfl, c0_1, ?_⟩
          simp only [Act.put, Z1, Z2, Z3]
          refine Held.tk (v := .bool true) 10 (some 29) rfl (Held.y_not rfl rfl rfl) c0_1 ?_
          simp only [Act.put, Z1, Z2, Z3]
          refine wpAnyH_done (by kernel_rfl) ?_ _
          have dz := hst.trans (c0_1.mono hst.size)
          generalize w1 = wz at dz ⊢
          clear hx hy c0_1
          go_wp2_with fail
          go_ret
          exact ⟨Mem.ret_bool HF.out.symm, dz⟩
      · have HF := Lib.hid (show decide (rs = rs') = true by
          have e1 := ht.out
          rw [List.take_of_length_le (by have := HL.out; omega), List.take_of_length_le (by have := HL'.out; omega)] at e1
          simpa using e1)
        go_wp2_with fail
        go_ret
        exact ⟨Mem.ret_bool HF.out.symm, hst⟩
  · have hne : ((n : Int) != (n' : Int)) = true := by simp; omega
    have HF := Lib.hid (show decide (rs = rs') = false by
      rw [decide_eq_false_iff_not]; intro e; exact hnn (by rw [← h.1, ← h'.1, e]))
    clear h h' hnn
    go_enter Try.func25, Try.ntmps25
    go_wp2_with fail
    go_ret
    exact ⟨Mem.ret_bool HF.out.symm, Below.refl _ _⟩
theorem plain_any (B B' : Nat) (A A' : Option Addr) (n n' c c' : Nat) (rs rs' : List R) (w : World) (h : Recs w B A n rs) (h' : Recs w B' A' n' rs') (hB : B ≤ w.heap.size) (hB' : B' ≤ w.heap.size) (hn : n ≤ 1073741824) (hn' : n' ≤ 1073741824) :
    Calls Try.prog 12 #[.slice A n c, .slice A' n' c'] w fun e w' => e = .returned (.bool (decide (rs = rs'))) ∧ Below w.heap.size w w' := by
  go_enter Try.func12, Try.ntmps12
  go_wp2_with fail
  refine (same_any B B' A A' n n' c c' rs rs' w h h' hB hB' hn hn').mono ?_
  rintro e w' ⟨rfl, hst⟩
  go_wp2_with fail
  go_ret
  exact ⟨rfl, hst⟩
end Go.Proofs.Ytbhgonnonhiocaa.Rs
namespace Go.Proofs.Ytbhgonnonhiocaa.Rs
open Go.RowKit Go.Shelf Go.Proofs.Ytbhgonnonhiocaa Mem Held Rc
set_option maxRecDepth 100000
attribute [local irreducible] wpList wpListIn Calls
theorem info_recs : (Try.prog.info? 26).map (fun i => (i.size, i.bytes)) = some (4, 32) := by kernel_rfl
theorem recs_of_blk {w : World} {g : Nat} {t : TypeId} {rs qs : List R} (h : Blk w g t (flat (rs ++ qs)).toArray) (hw : ∀ r ∈ rs, r.wf) : Recs w w.heap.size (some ⟨g, 0, none⟩) rs.length rs :=
  ⟨rfl, hw, fun _ => ⟨g, 0, rfl, h.lt, fun j v hv => by
    rw [Nat.zero_add]
    refine h.cell ?_
    rw [List.getElem?_toArray, flat_append, List.getElem?_append_left (List.getElem?_eq_some_iff.1 hv).1]
    exact hv⟩⟩
theorem fill_four {w : World} {g : Nat} {t : TypeId} {cap k : Nat} {rs : List R} {f : R} (h : Fill w g t cap (flat rs) (k * 4)) (hk : k < rs.length) (hf : rs.getD k R0 = f) (hc : k * 4 + 4 ≤ cap) : Fill (w.setCells g (k * 4) f.cells) g t cap (flat rs) ((k + 1) * 4) := by
  have e := fun j hj => flat_at rs k j hj hk
  rw [hf] at e
  have h0 := h.step (u := .bool f.d) (by have := e 0 (by omega); simpa [R.cells] using this) (by omega)
  have h1 := h0.step (u := .int .i64 f.k) (by have := e 1 (by omega); simpa [R.cells] using this) (by omega)
  have h2 := h1.step (u := .int .i64 f.v) (by have := e 2 (by omega); simpa [R.cells] using this) (by omega)
  have h3 := h2.step (u := .int .i64 f.s) (by have := e 3 (by omega); simpa [R.cells] using this) (by omega)
  rw [show (k + 1) * 4 = k * 4 + 1 + 1 + 1 + 1 by omega]
  exact h3
theorem wpList_append_ran {P : Program} {ops : Array Oper} {rest : List Oper} {o : Oper} {a : Act} {w : World} {Q : Exit → Act → World → Prop} (hgd : o.guard = none) (s x : Operand) (ts tx : TypeId) (ho : o.op = .call { callee := .builtin .append, args := #[s, x], argTypes := #[ts, tx] }) (u v r : Value) (w' : World) (hs : a.eval s = u) (hx : a.eval x = v)
    (hr : (Builtin.append_ #[ts, tx] o.type #[u, v]).run P w = .ok r w') (h : wpList P ops Q rest (a.put o.dst r) w') : wpList P ops Q (o :: rest) a w := by
  refine wpList_plain hgd fun K hK => ?_
  unfold Oper.wp execOp
  simp only [ho, resolve, invoke, builtin, Sem.run_bind, Sem.run_pure, Result.andThen_ok, List.map_toArray, List.map_cons, List.map_nil, hs, hx, hr]
  exact hK _ _ h
theorem run_append_recs_fits (w : World) (base g cap B m c : Nat) (A : Option Addr) (rs0 rs : List R) (hown : w.ownsRow base 26 4 (.slice (some ⟨g, 0, none⟩) rs0.length cap) rs0.length (flat rs0)) (h : Recs w B A m rs) (hfit : rs0.length + m ≤ cap) :
    ∃ w', (Builtin.append_ #[22, 22] 22 #[.slice (some ⟨g, 0, none⟩) rs0.length cap, .slice A m c]).run Try.prog w = .ok (.slice (some ⟨g, 0, none⟩) (rs0.length + m) cap) w' ∧ w'.ownsRow base 26 4 (.slice (some ⟨g, 0, none⟩) (rs0.length + m) cap) (rs0.length + m) (flat (rs0 ++ rs)) ∧ w.grownBy w' (some g) := by
  obtain ⟨ie, hie, hsb⟩ := Option.map_eq_some_iff.1 info_recs
  simp only [Prod.mk.injEq] at hsb
  obtain ⟨hsz, hby⟩ := hsb
  cases A with
  | none =>
    have hm : m = 0 := by
      rcases Nat.eq_zero_or_pos m with h0 | h0
      · exact h0
      · obtain ⟨_, _, e, _⟩ := h.2.2 h0
        cases e
    subst hm
    have e : rs = [] := List.eq_nil_of_length_eq_zero h.1
    subst e
    refine ⟨w, ?_, by simpa using hown, World.grownBy.refl w _⟩
    simp [Builtin.append_, run_underlying Try.underlying22, sizeOf, typeInfo, hie, Builtin.lenOf, Builtin.firstCells, show rs0.length ≤ cap by omega, storeCells]
  | some ad =>
    have hcells : ∀ j u, (flat rs)[j]? = some u → w.cell? (ad.add j) = some u := fun j u hu => by
      have hj := (List.getElem?_eq_some_iff.1 hu).1
      rw [flat_length] at hj
      obtain ⟨b, off, e, _, hc⟩ := h.2.2 (by have := h.1; omega)
      injection e with e
      subst e
      rw [show (Addr.mk b off none).add j = ⟨b, off + j, none⟩ by (unfold Addr.add; split <;> simp_all)]
      exact hc j u hu
    obtain ⟨w', h1, h2, h3⟩ := run_append_fits (P := Try.prog) w base 22 22 26 ie 4 Try.underlying22 hie hsz g rs0.length cap (flat rs0) hown ad m c (flat rs) (by rw [flat_length, h.1]) hcells (flat_one' rs) hfit
    exact ⟨w', h1, by rw [flat_append]; exact h2, h3⟩
theorem fill_of_own {w : World} {base g n cap : Nat} {t : TypeId} {cs M : List Value} (h : w.ownsRow base t 4 (.slice (some ⟨g, 0, none⟩) n cap) n cs) (hM : M.take (n * 4) = cs) : Fill w g t (cap * 4) M (n * 4) := by
  rcases h.2 with ⟨e, _⟩ | ⟨g', cap', cur, e, hb, hg, hnc, hcm, hcs, ht⟩
  · cases e
  · injection e with e1 e2 e3
    injection e1 with e1
    injection e1 with e1
    subst e1
    subst e3
    exact ⟨cur, hg, hcs, by rw [hM, ht]⟩
theorem wpList_store_rec {ops : Array Oper} {rest : List Oper} {o : Oper} {a : Act} {w : World} {Q : Exit → Act → World → Prop} (hgd : o.guard = none) (x y : Operand) (ho : o.op = .store 26 x y) (g k cap : Nat) (t : TypeId) (rs : List R) (f : R) (hx : a.eval x = .pointer (some ⟨g, k * 4, none⟩)) (hy : a.eval y = .agg #[.bool f.d, .int .i64 f.k, .int .i64 f.v, .int .i64 f.s])
    (hfl : Fill w g t cap (flat rs) (k * 4)) (hk : k < rs.length) (hf : rs.getD k R0 = f) (hc : k * 4 + 4 ≤ cap)
    (h : ∀ w', Fill w' g t cap (flat rs) ((k + 1) * 4) → w.grownBy w' (some g) → wpList Try.prog ops Q rest (a.put o.dst undef) w') : wpList Try.prog ops Q (o :: rest) a w := by
  have hth : w.there g (k * 4) 4 := fun j hj => by
    obtain ⟨u, hu⟩ := hfl.cell (i := k * 4 + j) (by omega)
    exact ⟨by rw [hu]; rfl, hfl.frozen _⟩
  refine wpList_store_mid hgd _ x y ho g (k * 4) f.cells.toArray hx hy hth (by kernel_rfl) (all_oneCell_toArray (flat_one' [f] |> fun h => by rwa [flat_one] at h)) (h _ ?_ ?_)
  · exact fill_four hfl hk hf hc
  · exact Lib.grownBy_trans (Lib.grownBy_trans (Lib.grownBy_trans (grown_setCell _ _ _ _) (grown_setCell _ _ _ _)) (grown_setCell _ _ _ _)) (grown_setCell _ _ _ _)
set_option maxRecDepth 100000 in
set_option maxHeartbeats 4000000 in
theorem own_any (B : Nat) (A : Option Addr) (n c : Nat) (rs : List R) (f : R) (w : World) (h : Recs w B A n rs) (hB : B ≤ w.heap.size) (hn : n ≤ 1048576) :
    Calls Try.prog 9 #[.slice A n c, .agg #[.bool f.d, .int .i64 f.k, .int .i64 f.v, .int .i64 f.s]] w fun e w' => ∃ g, e = .returned (.slice (some ⟨g, 0, none⟩) n (n + 3)) ∧ w.heap.size ≤ g ∧ Blk w' g 26 (flat (rs ++ [f, f, f])).toArray ∧ Below w.heap.size w w' := by
  obtain ⟨ie, hie, hsb⟩ := Option.map_eq_some_iff.1 info_recs
  simp only [Prod.mk.injEq] at hsb
  obtain ⟨hsz, hby⟩ := hsb
  obtain ⟨zr, hz⟩ : ∃ z, ie.zero = some z := by
    have := zero_rec
    rw [hie] at this
    exact ⟨_, this⟩
  have HL := Lib.hid h.1
  go_enter Try.func9, Try.ntmps9
  go_wp2_with (first
    | (refine wpList_box_blk (w := w) rfl 26 _ rfl _ rfl ?_; intro w1 q1 g1 z1)
    | (at_make; refine wpList_make_own w1 rfl _ _ 22 rfl w1.heap.size 26 ie zr 4 Try.underlying22 hie hz hsz .i64 .i64 _ (n + 3) rfl rfl (by simp) (by rw [hby]; omega) (by unfold maxLen; omega) (Nat.le_refl _) ?_; intro w2 o2 g2; have b1 : Below w.heap.size w w1 := (Below.refl _ w).grown g1 (Nat.le_refl _) (by simp); have b2 := b1.grown g2 b1.size (by simp); obtain ⟨w3, hrun, o3, g3⟩ := run_append_recs_fits w2 w1.heap.size w1.heap.size (n + 3) B n c A [] rs o2 (h.below (b2.mono hB)) (by simp); simp only [List.length_nil, Nat.zero_add, List.nil_append] at hrun o3)
    | (at_builtin; refine wpList_append_ran (w := w2) rfl _ _ 22 22 rfl _ _ _ w3 rfl rfl hrun ?_))
  have hsw : w.heap.size ≤ w1.heap.size := g1.size
  have l1 := q1.lt
  have q3 := (q1.grown g2 (by simp)).grown g3 (by intro e; injection e with e; omega)
  have b3 := b2.grown g3 b2.size (fun r e => by cases e; exact hsw)
  have hfill := fill_of_own (M := flat (rs ++ [f, f, f])) o3 (by rw [flat_append, List.take_left' (by rw [flat_length, HL.out])])
  clear o2 o3 g1 g2 g3 hrun q1 b1 b2 z1
  have HN := Lib.hid (show ∀ k, n ≤ k → k < n + 3 → (rs ++ [f, f, f]).getD k R0 = f from fun k h1 h2 => by
    have hz := HL.out
    rw [List.getD_eq_getElem?_getD, List.getElem?_append_right (by omega), hz]
    have : k - n = 0 ∨ k - n = 1 ∨ k - n = 2 := by omega
    rcases this with e | e | e <;> rw [e] <;> rfl)
  have HLEN := Lib.hid (show (rs ++ [f, f, f]).length = n + 3 by have := HL.out; simp; omega)
  go_loopw [7] (fun i wr => ∃ k : Nat, n ≤ k ∧ k ≤ n + 3 ∧ i = .int .i64 k ∧ Below w.heap.size w wr ∧ Blk wr w.heap.size 26 #[.bool f.d, .int .i64 f.k, .int .i64 f.v, .int .i64 f.s] ∧ Fill wr w1.heap.size 26 ((n + 3) * 4) (flat (rs ++ [f, f, f])) (k * 4)) (fun i _ => n + 3 - (intOf i).toNat)
  case atStart => exact ⟨n, by omega, by omega, rfl, b3, q3, hfill⟩
  case round =>
    clear b3 q3 hfill
    obtain ⟨k, hk0, hk, rfl, hbl, q3, hfl⟩ := hrel
    by_cases hlt : k < n + 3
    · have HK := Lib.hid (show k < (rs ++ [f, f, f]).length by rw [HLEN.out]; exact hlt)
      have HG := Lib.hid (HN.out k hk0 hlt)
      have hlt' : (k : Int) < (n : Int) + 3 := by omega
      have hk1 : (0 : Int) ≤ (k : Int) := by omega
      go_wp2_with (first
        | (refine wpList_load_blk (w := wr) rfl 26 _ rfl w.heap.size 4 rfl 26 _ q3 _ Try.underlying26 rfl (by kernel_rfl) rfl ?_)
        | (refine wpList_run (w := wr) rfl (v := .pointer (some ⟨w1.heap.size, k * 4, none⟩)) (Held.y_addr (S := fun _ => True) rfl rfl rfl (by have := run_addr_of (P := Try.prog) 22 26 w1.heap.size 0 (n + 3) (n + 3) k 4 .i64 Try.underlying22 (by kernel_rfl) hlt; rwa [Nat.zero_add] at this) _ trivial) ?_)
        | (refine wpList_store_rec (w := wr) rfl _ _ rfl w1.heap.size k ((n + 3) * 4) _ _ f rfl rfl hfl HK.out HG.out (by omega) ?_; intro w5 HF g5))
      have HB := hbl.grown g5 hbl.size (fun r e => by cases e; exact hsw)
      have HQ := q3.grown g5 (by intro e; injection e with e; omega)
      clear g5
      go_roundw
      case rel => exact ⟨k + 1, by omega, by omega, by go_num, HB, HQ, HF⟩
      case measure => simp [intOf]; omega
    · have HD := Lib.hid (hfl.done (by omega) (by rw [flat_length, HLEN.out]))
      go_wp2_with fail
      go_ret
      exact ⟨w1.heap.size, rfl, hsw, HD.out, hbl⟩
set_option maxRecDepth 100000 in
set_option maxHeartbeats 4000000 in
theorem kept_any (B : Nat) (A : Option Addr) (n c g : Nat) (rs : List R) (f : R) (w : World) (h : Recs w B A n rs) (hB : B ≤ w.heap.size) (hn : n ≤ 1048576) (hr : Blk w g 26 (flat (rs ++ [f, f, f])).toArray) :
    Calls Try.prog 17 #[.slice (some ⟨g, 0, none⟩) n (n + 3), .slice A n c, .agg #[.bool f.d, .int .i64 f.k, .int .i64 f.v, .int .i64 f.s]] w fun e w' => e = .returned (.bool true) ∧ Below w.heap.size w w' := by
  have HL := Lib.hid h.1
  have HN := Lib.hid (show ∀ k, n ≤ k → k < n + 3 → (rs ++ [f, f, f]).getD k R0 = f from fun k h1 h2 => by
    have hz := HL.out
    rw [List.getD_eq_getElem?_getD, List.getElem?_append_right (by omega), hz]
    have : k - n = 0 ∨ k - n = 1 ∨ k - n = 2 := by omega
    rcases this with e | e | e <;> rw [e] <;> rfl)
  have HLEN := Lib.hid (show (rs ++ [f, f, f]).length = n + 3 by have := HL.out; simp; omega)
  go_enter Try.func17, Try.ntmps17
  go_wp2_with (refine wpList_box_blk (w := w) rfl 26 _ rfl _ rfl ?_; intro w1 q1 g1 z1)
  have b1 : Below w.heap.size w w1 := (Below.refl _ w).grown g1 (Nat.le_refl _) (by simp)
  have hgw := hr.lt
  have hr := hr.grown g1 (by simp)
  have h1 := h.below (b1.mono hB)
  have hi := recs_of_blk hr h.2.1
  rw [h.1] at hi
  clear g1 z1
  refine (plain_any w1.heap.size w1.heap.size (some ⟨g, 0, none⟩) A n n (n + 3) c rs rs w1 hi (h1.more (Nat.le_trans hB b1.size)) (Nat.le_refl _) (Nat.le_refl _) (by omega) (by omega)).mono ?_
  rintro e w2 ⟨rfl, b2⟩
  have hr := hr.after b2
  have q1 := q1.after b2
  have b2 := b1.trans (b2.mono b1.size)
  have ht : decide (rs = rs) = true := by simp
  rw [ht]
  clear b1 hi h1 ht
  go_wp2_with fail
  go_loopw [8] (fun i wr => ∃ k : Nat, n ≤ k ∧ k ≤ n + 3 ∧ i = .int .i64 k ∧ Blk wr g 26 (flat (rs ++ [f, f, f])).toArray ∧ Blk wr w.heap.size 26 #[.bool f.d, .int .i64 f.k, .int .i64 f.v, .int .i64 f.s] ∧ Below w.heap.size w wr) (fun i _ => n + 3 - (intOf i).toNat)
  case atStart => exact ⟨n, by omega, by omega, rfl, hr, q1, b2⟩
  case round =>
    clear hr q1 b2
    obtain ⟨k, hk0, hk, rfl, hr, q1, hst⟩ := hrel
    by_cases hlt : k < n + 3
    · have hrg : wr.rangeAt g (0 + k * 4) f.cells := fun j v hv => by
        have hj : j < 4 := by have := (List.getElem?_eq_some_iff.1 hv).1; simpa [R.cells] using this
        rw [Nat.zero_add]
        refine hr.cell ?_
        rw [List.getElem?_toArray, flat_at _ k j hj (by rw [HLEN.out]; exact hlt), HN.out k hk0 hlt]
        exact hv
      have hlt' : (k : Int) < (n : Int) + 3 := by omega
      have hk1 : (0 : Int) ≤ (k : Int) := by omega
      go_wp2_with fail
      refine wp_region_held (S := fun W => Below wr.heap.size wr W) (by kernel_rfl) ?_
      change wpAnyH _ _ _ _ _ _ _ _ wr.drew
      have c0_0 := (Below.refl wr.heap.size wr).drew
      refine Held.tk (v := .slice (some ⟨g, 0, none⟩) (n + 3) (n + 3)) 0 (some 34) rfl (Held.y_move rfl rfl) c0_0 ?_
      simp only [Act.put, Z1, Z2, Z3]
      refine Held.tk (v := .int .i64 (k : Int)) 1 (some 35) rfl (Held.y_move rfl rfl) c0_0 ?_
      simp only [Act.put, Z1, Z2, Z3]
      refine Held.tk (v := .pointer (some ⟨g, 0 + k * 4, none⟩)) 2 (some 36) rfl (Held.y_addr rfl rfl rfl (run_addr_of 22 26 g 0 (n + 3) (n + 3) k 4 .i64 Try.underlying22 (by kernel_rfl) hlt)) c0_0 ?_
      simp only [Act.put, Z1, Z2, Z3]
      refine Held.tk (v := .agg #[.bool f.d, .int .i64 f.k, .int .i64 f.v, .int .i64 f.s]) 3 (some 37) rfl (y_load_range (n := 4) (cs := f.cells) rfl rfl Try.underlying26 rfl (by kernel_rfl) rfl (fun W hW => range_below hrg hW hr.lt)) c0_0 ?_
      simp only [Act.put, Z1, Z2, Z3]
      refine Held.tk (v := .agg #[.bool f.d, .int .i64 f.k, .int .i64 f.v, .int .i64 f.s]) 4 (some 38) rfl (Held.y_load_blk (n := 4) rfl rfl Try.underlying26 rfl (by kernel_rfl) rfl (fun W hW => q1.below hW q1.lt)) c0_0 ?_
      simp only [Act.put, Z1, Z2, Z3]
      refine Held.tk (v := .bool false) 5 (some 39) rfl (y_ner rfl rfl rfl (by simp)) c0_0 ?_
      simp only [Act.put, Z1, Z2, Z3]
      refine wpAnyH_done (by kernel_rfl) ?_ _
      have hr := hr.after c0_0
      have q1 := q1.after c0_0
      have dz := hst.trans (c0_0.mono hst.size)
      generalize wr.drew = wz at hr q1 dz ⊢
      clear c0_0 hrg
      go_wp2_with fail
      go_roundw
      case rel => exact ⟨k + 1, by omega, by omega, by go_num, hr, q1, dz⟩
      case measure => simp [intOf]; omega
    · go_wp2_with fail
      go_ret
      exact ⟨rfl, hst⟩
def OwnR (w : World) (base : Nat) (v : Value) (rs : List R) : Prop := w.ownsRow base 26 4 v rs.length (flat rs)
theorem OwnR.nil (w : World) (base : Nat) : OwnR w base (.slice none 0 0) [] := World.ownsRow_nil _ _ _ _
theorem OwnR.form {w : World} {base : Nat} {v : Value} {rs : List R} (h : OwnR w base v rs) : ∃ A c, v = .slice A rs.length c ∧ rs.length ≤ c ∧ c ≤ maxLen := Held.row_form h
theorem OwnR.kept {w w' : World} {base : Nat} {v : Value} {rs : List R} (h : OwnR w base v rs) {row : Option Nat} (hg : w.grownBy w' row) (hne : v.ownBlock = none ∨ v.ownBlock ≠ row) : OwnR w' base v rs := World.ownsRow.kept h hg hne
theorem OwnR.below {w w' : World} {base : Nat} {v : Value} {rs : List R} (h : OwnR w base v rs) (hb : Below w.heap.size w w') : OwnR w' base v rs := h.kept (grown_of_below hb none) (by cases v.ownBlock <;> simp)
theorem wpList_build_rec {ops : Array Oper} {rest : List Oper} {o : Oper} {a : Act} {w : World} {Q : Exit → Act → World → Prop} (hgd : o.guard = none) (y : Operand) (ho : o.op = .buildSlice 22 1 #[(0, y)]) (f : R) (hy : a.eval y = .agg #[.bool f.d, .int .i64 f.k, .int .i64 f.v, .int .i64 f.s])
    (h : ∀ w', Blk w' w.heap.size 26 f.cells.toArray → w.grownBy w' none → Hid (w'.heap.size = w.heap.size + 1) → wpList Try.prog ops Q rest (a.put o.dst (.slice (some ⟨w.heap.size, 0, none⟩) 1 1)) w') : wpList Try.prog ops Q (o :: rest) a w := by
  obtain ⟨ie, hie, hsb⟩ := Option.map_eq_some_iff.1 info_recs
  simp only [Prod.mk.injEq] at hsb
  have hz : ie.zero = some (.agg #[.bool false, .int .i64 0, .int .i64 0, .int .i64 0]) := by
    have := zero_rec
    rw [hie] at this
    exact this
  refine Go.wpList_buildSlice hgd 22 26 1 #[(0, y)] ho f.cells.toArray ie _ Try.underlying22 hie hz (by rw [hsb.1]; omega) (by rw [hsb.1]; omega) ?_ (h _ (heap_alloc_new w _) (World.grownBy_alloc w _ none) (Lib.hid (by simp)))
  have hf := Great.fill_whole (s := 4) (by omega) [.agg f.cells.toArray] ((Array.range (1 * ie.size)).map ((Value.agg #[.bool false, .int .i64 0, .int .i64 0, .int .i64 0]).cells[· % (Value.agg #[.bool false, .int .i64 0, .int .i64 0, .int .i64 0]).cells.size]!)) (by simp [Value.cells, R.cells]) (by simp [hsb.1])
  rw [hsb.1] at hf ⊢
  simp only [List.map_toArray, List.map_cons, List.map_nil, hy]
  refine Eq.trans ?_ (hf.trans ?_)
  · rfl
  · simp [Value.cells, R.cells]
end Go.Proofs.Ytbhgonnonhiocaa.Rs
