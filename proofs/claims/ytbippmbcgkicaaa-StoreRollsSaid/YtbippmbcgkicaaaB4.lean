/-
  Words for package store in memory: lists of byte slices, views, what is known of a name, a store: what they read as, whose each block is, what a change of one of them leaves: no program here but its types.
  Maps keyed by strings at the operations: looked up, stored into, made, ranged over; strings held against each other: no program here.
  Package store's New, find, Versions, Writes, copied, by their contracts.
  A region that draws its order and in the end stores into what it has loaded: what is loaded ahead of a store that waits for it may be taken first, as long as a condition holds till that store.
  A region that draws its order and stores into what it has loaded: what hangs on no memory may be taken first, whatever waits for it.
-/
import Derived.Test.YtbippmbcgkicaaaB1
import Derived.Test.YtbippmbcgkicaaaB3
import Derived.Laws.IdiomRangeMap
import Derived.WalkSpells
import Derived.Test.YtbippmbcgkicaaaB2
set_option linter.unusedVariables false
namespace Go.Proofs.Ytbippmbcgkicaaa.Sto
open Go.RowKit Go.Shelf Go.Proofs.Ytbippmbcgkicaaa Mem Held Sl Go.Proofs.Ytbippmbcgkicaaa.Range
structure Bs where
  A : Option Addr
  n : Nat
  c : Nat
  zs : List Int
def Bs.v (x : Bs) : Value := .slice x.A x.n x.c
def Bs.nil : Bs := ⟨none, 0, 0, []⟩
structure Vw where
  t : Int
  is : Bool
  x : Bs
def Vw.cells (v : Vw) : List Value := [.int .i64 v.t, .bool v.is, .slice v.x.A v.x.n v.x.c]
def Vw.none : Vw := ⟨0, false, Bs.nil⟩
def kB : St Bs := ⟨1, fun x => [.slice x.A x.n x.c], fun _ => True, Bs.nil, fun _ => rfl, fun x u hu => by rw [List.mem_singleton.1 hu]; rfl, by omega⟩
def kV : St Vw := ⟨3, Vw.cells, fun v => (Lit.int .i64 v.t).wf = true, Vw.none, fun _ => rfl, fun v u hu => by
  simp only [Vw.cells, List.mem_cons, List.not_mem_nil, or_false] at hu
  rcases hu with rfl | rfl | rfl <;> rfl, by omega⟩
theorem info_kB : (Try.prog.info? 31).map (fun i => (i.zero, i.size, i.bytes)) = some (some (.slice none 0 0), kB.s, 24) := by kernel_rfl
theorem info_kV : (Try.prog.info? 73).map (fun i => (i.zero, i.size, i.bytes)) = some (some (.agg #[.int .i64 0, .bool false, .slice none 0 0]), kV.s, 40) := by kernel_rfl
def Rd (S : Nat → Prop) (w : World) (x : Bs) : Prop := Ints w .u8 w.heap.size x.A x.n x.zs ∧ x.n ≤ 1099511627776 ∧ ∀ b off p, x.A = some ⟨b, off, p⟩ → 0 < x.n → S b
section
variable {S S' : Nat → Prop} {w w' : World} {x : Bs}
theorem Rd.nil (S : Nat → Prop) (w : World) : Rd S w Bs.nil := ⟨Ints.nil _ _ _ _, by simp [Bs.nil], fun b off p e => by cases e⟩
theorem Rd.keep (h : Rd S w x) (hk : KeepsP S w w') : Rd S w' x := by
  refine ⟨⟨h.1.1, h.1.2.1, fun hn => ?_⟩, h.2⟩
  obtain ⟨b, off, e, hb, hc⟩ := h.1.2.2 hn
  have hs := h.2.2 b off none e hn
  have hbk : w'.heap[b]? = w.heap[b]? := by
    have e0 := Array.getElem?_eq_getElem (xs := w.heap) hb
    rw [e0]
    exact hk.block b _ hs e0
  exact ⟨b, off, e, Nat.lt_of_lt_of_le hb hk.size, fun i hi => (World.cell?_of_block hbk).trans (hc i hi)⟩
theorem Rd.less (h : Rd S w x) (hs : ∀ b, S b → b < w.heap.size → S' b) : Rd S' w x := ⟨h.1, h.2.1, fun b off p e hn => by
  have := h.2.2 b off p e hn
  obtain ⟨b', off', e', hb, _⟩ := h.1.2.2 hn
  rw [e] at e'
  injection e' with e'
  injection e' with e1 _
  subst e1
  exact hs _ this hb⟩
theorem Rd.len (h : Rd S w x) : x.zs.length = x.n := h.1.1
end
structure Ent where
  k : Nm
  h : Nat
  vs : List Bs
  us : List Vw
def ptrR (v : Value) : Option (DataW Unit × List MemPlace) :=
  match v with
  | .pointer none => some (.nil, [])
  | .pointer (some ⟨g, 0, none⟩) => some (.lit (.int .i64 (g : Int)), [])
  | _ => none
def ptrV : Option Nat → Value
  | none => .pointer none
  | some g => .pointer (some ⟨g, 0, none⟩)
def ptrD : Option Nat → DataW Unit
  | none => .nil
  | some g => .lit (.int .i64 (g : Int))
def eP : EK (Option Nat) where
  R := ptrR
  enc := ptrV
  dat := ptrD
  ok := fun _ => True
  z := none
  hR := fun b _ => by cases b <;> exact ⟨_, rfl⟩
  inv := fun v y h => by
    unfold ptrR at h
    split at h
    · cases h
      exact ⟨none, trivial, rfl, rfl⟩
    · cases h
      exact ⟨some _, trivial, rfl, rfl⟩
    · cases h
  inj := fun a b _ _ h => by
    cases a <;> cases b
    · rfl
    · cases h
    · cases h
    · simp only [ptrD, DataW.lit.injEq, Lit.int.injEq] at h
      have := h.2
      congr 1
      omega
  zok := trivial
def HistAt (ow : Nat → Nat) (w : World) (h : Nat) (vs : List Bs) (us : List Vw) : Prop :=
  ow h = h + 2 ∧ ∃ vv ww, Blk w h 71 #[vv, ww] ∧ OwnL kB 31 w 0 vv vs ∧ OwnL kV 73 w 0 ww us ∧ (∀ b, vv.ownBlock = some b → ow b = h + 2) ∧ ∀ b, ww.ownBlock = some b → ow b = h + 2
structure Bytes (ow : Nat → Nat) (w : World) (vs : List Bs) (us : List Vw) : Prop where
  vs : ∀ x ∈ vs, Rd (fun r => ow r = 1) w x
  us : ∀ v ∈ us, Rd (fun r => ow r = 1) w v.x ∧ (Lit.int .i64 v.t).wf = true
structure Sto (ow : Nat → Nat) (w : World) (s : Nat) (W : Int) (N : Nat) (es : List Ent) : Prop where
  own : ow s = s + 2
  blk : ∃ mv, Blk w s 64 #[mv, .int .i64 W] ∧ ((mv = .map none ∧ es = []) ∨ ∃ b, mv = .map (some b) ∧ ow b = s + 2 ∧ MpS eP Try.prog 9 w b N (es.map fun e => (e.k, some e.h)))
  hist : ∀ e ∈ es, HistAt ow w e.h e.vs e.us
  bytes : ∀ e ∈ es, Bytes ow w e.vs e.us
  keys : (es.map (·.k)).Nodup
  apart : (es.map (·.h)).Nodup
  few : ∀ e ∈ es, e.vs.length ≤ N ∧ e.us.length ≤ N ∧ e.k.length ≤ maxLen
  len : es.length ≤ N
  low : ∀ r, ow r ≠ 0 → r < w.heap.size
  wf : 0 ≤ W ∧ W ≤ N
structure Chg (ow ow' : Nat → Nat) (w w' : World) : Prop where
  keep : KeepsP (fun r => ow r ≤ 1) w w'
  same : ∀ r, r < w.heap.size → ow' r = ow r
section
variable {ow ow' ow'' : Nat → Nat} {w w' w'' : World} {s N h : Nat} {W : Int} {es : List Ent} {vs : List Bs} {us : List Vw} {e : Ent}
theorem Chg.refl (ow : Nat → Nat) (w : World) : Chg ow ow w w := ⟨KeepsP.refl _ _, fun _ _ => rfl⟩
theorem Chg.trans (h : Chg ow ow' w w') (k : Chg ow' ow'' w' w'') : Chg ow ow'' w w'' :=
  ⟨⟨k.keep.os.trans h.keep.os, k.keep.tape.trans h.keep.tape, k.keep.output.trans h.keep.output, Nat.le_trans h.keep.size k.keep.size, fun r o hr ho => by
    have hlt := (Array.getElem?_eq_some_iff.1 ho).1
    exact k.keep.block r o (by show ow' r ≤ 1; rw [h.same r hlt]; exact hr) (h.keep.block r o hr ho)⟩,
   fun r hr => (k.same r (Nat.lt_of_lt_of_le hr h.keep.size)).trans (h.same r hr)⟩
theorem Chg.below (hb : Below w.heap.size w w') (ow : Nat → Nat) : Chg ow ow w w' := ⟨KeepsP.of_below hb, fun _ _ => rfl⟩
theorem HistAt.keep (h1 : HistAt ow w h vs us) (hk : KeepsP (fun r => ow r = h + 2) w w') (hs : ∀ r, r < w.heap.size → ow r ≠ 0 → ow' r = ow r) : HistAt ow' w' h vs us := by
  obtain ⟨h0, vv, ww, hb, hv, hw, o1, o2⟩ := h1
  have hlt := hb.lt
  have row : ∀ {α : Type} {k : St α} {t : TypeId} {v : Value} {xs : List α}, OwnL k t w 0 v xs → (∀ b, v.ownBlock = some b → ow b = h + 2) → OwnL k t w' 0 v xs := by
    intro α k t v xs ho hq
    refine ⟨ho.1, ?_⟩
    rcases ho.2 with h2 | ⟨g, cap, cur, rfl, hbg, hg, r⟩
    · exact .inl h2
    · exact .inr ⟨g, cap, cur, rfl, hbg, hk.block g _ (hq g rfl) hg, r⟩
  exact ⟨(hs h hlt (by omega)).trans h0, vv, ww, hk.block h _ h0 hb, row hv o1, row hw o2, fun b e => (hs b (OwnL.lt hv b e).2 (by rw [o1 b e]; omega)).trans (o1 b e), fun b e => (hs b (OwnL.lt hw b e).2 (by rw [o2 b e]; omega)).trans (o2 b e)⟩
theorem Bytes.keep (h1 : Bytes ow w vs us) (hk : KeepsP (fun r => ow r = 1) w w') (hs : ∀ r, r < w.heap.size → ow r ≠ 0 → ow' r = ow r) : Bytes ow' w' vs us := by
  have f : ∀ {x : Bs}, Rd (fun r => ow r = 1) w x → Rd (fun r => ow' r = 1) w' x := fun {x} hx =>
    (Rd.less (S' := fun r => ow' r = 1 ∧ ow r = 1) hx fun b hb hlt => ⟨(hs b hlt (by omega)).trans hb, hb⟩).keep (hk.less fun r hr => hr.2) |>.less fun b hb _ => hb.1
  exact ⟨fun x hx => f (h1.vs x hx), fun v hv => ⟨f (h1.us v hv).1, (h1.us v hv).2⟩⟩
theorem HistAt.lt (h1 : HistAt ow w h vs us) : h < w.heap.size := by
  obtain ⟨_, vv, ww, hb, _⟩ := h1
  exact hb.lt
theorem Sto.lt (H : Sto ow w s W N es) : s < w.heap.size := by
  obtain ⟨mv, hb, _⟩ := H.blk
  exact hb.lt
theorem Sto.ne (H : Sto ow w s W N es) (he : e ∈ es) : e.h ≠ s := fun h0 => by
  obtain ⟨mv, hb, _⟩ := H.blk
  obtain ⟨_, vv, ww, hb', _⟩ := H.hist e he
  rw [h0] at hb'
  unfold Blk at hb hb'
  rw [hb] at hb'
  simp at hb'
theorem Sto.keep (H : Sto ow w s W N es) (hk : KeepsP (fun r => ow r ≠ 0) w w') : Sto ow w' s W N es where
  own := H.own
  blk := by
    obtain ⟨mv, hb, hm⟩ := H.blk
    refine ⟨mv, hk.block s _ (by show ow s ≠ 0; rw [H.own]; omega) hb, hm.imp id fun ⟨b, e1, e2, e3⟩ => ⟨b, e1, e2, e3.same fun o ho => hk.block b _ (by show ow b ≠ 0; rw [e2]; omega) ho⟩⟩
  hist := fun e he => (H.hist e he).keep (hk.less fun r hr => by omega) (fun _ _ _ => rfl)
  bytes := fun e he => (H.bytes e he).keep (hk.less fun r hr => by omega) (fun _ _ _ => rfl)
  keys := H.keys
  apart := H.apart
  few := H.few
  len := H.len
  low := fun r hr => Nat.lt_of_lt_of_le (H.low r hr) hk.size
  wf := H.wf
theorem Sto.below (H : Sto ow w s W N es) (hb : Below w.heap.size w w') : Sto ow w' s W N es := H.keep (KeepsP.of_below hb)
theorem Sto.more (H : Sto ow w s W N es) {N' : Nat} (hN : N ≤ N') : Sto ow w s W N' es where
  own := H.own
  blk := by
    obtain ⟨mv, hb, hm⟩ := H.blk
    exact ⟨mv, hb, hm.imp id fun ⟨b, e1, e2, e3⟩ => ⟨b, e1, e2, e3.mono hN⟩⟩
  hist := H.hist
  bytes := H.bytes
  keys := H.keys
  apart := H.apart
  few := fun e he => ⟨Nat.le_trans (H.few e he).1 hN, Nat.le_trans (H.few e he).2.1 hN, (H.few e he).2.2⟩
  len := Nat.le_trans H.len hN
  low := H.low
  wf := ⟨H.wf.1, by have := H.wf.2; omega⟩
theorem Sto.label (H : Sto ow w s W N es) (hs : ∀ r, ow r ≠ 0 → ow' r = ow r) (hl : ∀ r, ow' r ≠ 0 → r < w.heap.size) : Sto ow' w s W N es where
  own := (hs s (by rw [H.own]; omega)).trans H.own
  blk := by
    obtain ⟨mv, hb, hm⟩ := H.blk
    exact ⟨mv, hb, hm.imp id fun ⟨b, e1, e2, e3⟩ => ⟨b, e1, (hs b (by rw [e2]; omega)).trans e2, e3⟩⟩
  hist := fun e he => (H.hist e he).keep (KeepsP.refl _ _) (fun r _ h => hs r h)
  bytes := fun e he => (H.bytes e he).keep (KeepsP.refl _ _) (fun r _ h => hs r h)
  keys := H.keys
  apart := H.apart
  few := H.few
  len := H.len
  low := hl
  wf := H.wf
theorem at_ne {i : Nat} (H : Sto ow w s W N es) (hi : es[i]? = some e) {j : Nat} {e' : Ent} (hj : es[j]? = some e') (hne : j ≠ i) : e'.h ≠ e.h := fun h0 => by
  have hli := (List.getElem?_eq_some_iff.1 hi).1
  have hlj := (List.getElem?_eq_some_iff.1 hj).1
  have h1 : (es.map (·.h))[i]? = some e.h := by rw [List.getElem?_map, hi]; rfl
  have h2 : (es.map (·.h))[j]? = some e'.h := by rw [List.getElem?_map, hj]; rfl
  have h3 := List.pairwise_iff_getElem.1 H.apart
  have li : i < (es.map (·.h)).length := by simpa using hli
  have lj : j < (es.map (·.h)).length := by simpa using hlj
  rw [List.getElem?_eq_getElem li] at h1
  rw [List.getElem?_eq_getElem lj] at h2
  injection h1 with h1
  injection h2 with h2
  rcases Nat.lt_or_ge i j with h | h
  · exact h3 i j li lj h (by rw [h1, h2, h0])
  · exact h3 j i lj li (by omega) (by rw [h1, h2, h0])
theorem Sto.upd (H : Sto ow w s W N es) {i : Nat} (hi : es[i]? = some e) (hk : KeepsP (fun r => ow r ≠ e.h + 2 ∧ r < w.heap.size) w w') (hs : ∀ r, r < w.heap.size → ow' r = ow r) (hl : ∀ r, ow' r ≠ 0 → r < w'.heap.size)
    (hh : HistAt ow' w' e.h vs us) (hb : Bytes ow' w' vs us) (hn : vs.length ≤ N ∧ us.length ≤ N) : Sto ow' w' s W N (es.set i { e with vs := vs, us := us }) ∧ Chg ow ow' w w' := by
  have hm := List.mem_of_getElem? hi
  have hil := (List.getElem?_eq_some_iff.1 hi).1
  have hne := H.ne hm
  have hk' : ∀ {S : Nat → Prop}, (∀ r, S r → r < w.heap.size → ow r ≠ e.h + 2) → KeepsP S w w' := fun {S} hS =>
    ⟨hk.os, hk.tape, hk.output, hk.size, fun r o hr ho => hk.block r o ⟨hS r hr (Array.getElem?_eq_some_iff.1 ho).1, (Array.getElem?_eq_some_iff.1 ho).1⟩ ho⟩
  have hmap : ∀ {γ : Type} (f : Ent → γ), f { e with vs := vs, us := us } = f e → (es.set i { e with vs := vs, us := us }).map f = es.map f := fun {γ} f hf => by
    rw [List.map_set, hf]
    apply List.ext_getElem?
    intro j
    rw [List.getElem?_set]
    split
    · rename_i h
      subst h
      rw [if_pos (by simpa using hil), List.getElem?_map, hi]
      rfl
    · rfl
  have hmem : ∀ x ∈ es.set i { e with vs := vs, us := us }, x = { e with vs := vs, us := us } ∨ (x ∈ es ∧ x.h ≠ e.h) := fun x hx => by
    obtain ⟨j, hj⟩ := List.getElem?_of_mem hx
    rw [List.getElem?_set] at hj
    split at hj
    · rename_i h
      subst h
      injection hj with hj
      exact .inl hj.symm
    · rename_i h
      exact .inr ⟨List.mem_of_getElem? hj, at_ne H hi hj (fun e => h e.symm)⟩
  refine ⟨⟨(hs s H.lt).trans H.own, ?_, fun x hx => ?_, fun x hx => ?_, by rw [hmap (·.k) rfl]; exact H.keys, by rw [hmap (·.h) rfl]; exact H.apart, fun x hx => ?_, by rw [List.length_set]; exact H.len, hl, H.wf⟩, hk' fun r hr _ => by omega, hs⟩
  · obtain ⟨mv, hbs, hmv⟩ := H.blk
    refine ⟨mv, hk.block s _ ⟨by rw [H.own]; omega, H.lt⟩ hbs, hmv.imp (fun h => ⟨h.1, by rw [h.2]; rfl⟩) fun ⟨b, e1, e2, e3⟩ => ⟨b, e1, (hs b e3.lt).trans e2, ?_⟩⟩
    rw [hmap (fun e => (e.k, some e.h)) rfl]
    exact e3.same fun o ho => hk.block b _ ⟨by rw [e2]; omega, e3.lt⟩ ho
  · rcases hmem x hx with rfl | ⟨hx, hne⟩
    · exact hh
    · exact (H.hist x hx).keep (hk' fun r hr _ => by omega) (fun r h _ => hs r h)
  · rcases hmem x hx with rfl | ⟨hx, _⟩
    · exact hb
    · exact (H.bytes x hx).keep (hk' fun r hr _ => by omega) (fun r h _ => hs r h)
  · rcases hmem x hx with rfl | ⟨hx, _⟩
    · exact ⟨hn.1, hn.2, (H.few e hm).2.2⟩
    · exact H.few x hx
theorem Sto.add (H : Sto ow w s W N es) {k : Nm} {b g : Nat} (hk : k.length ≤ maxLen) (hne : ∀ e ∈ es, e.k ≠ k) (hkp : KeepsP (fun r => ow r ≠ s + 2 ∧ r < w.heap.size) w w')
    (hb : Blk w' s 64 #[.map (some b), .int .i64 W]) (hM : MpS eP Try.prog 9 w' b (N + 1) ((es ++ [(⟨k, g, [], []⟩ : Ent)]).map fun e => (e.k, some e.h))) (hob : ow b = s + 2 ∨ w.heap.size ≤ b) (hg : Blk w' g 71 #[.slice none 0 0, .slice none 0 0]) (hgn : w.heap.size ≤ g) :
    ∃ ow', Sto ow' w' s W (N + 1) (es ++ [⟨k, g, [], []⟩]) ∧ Chg ow ow' w w' := by
  have hsl := H.lt
  have hfree : ∀ r, w.heap.size ≤ r → ow r = 0 := fun r hr => by
    rcases Nat.eq_zero_or_pos (ow r) with h | h
    · exact h
    · have := H.low r (by omega); omega
  have hbg : b ≠ g := fun e => by
    obtain ⟨es', clock, h1⟩ := hM.obj
    have hg' : w'.heap[g]? = some (.cells #[.slice none 0 0, .slice none 0 0] 71 (0, 0)) := hg
    rw [e, hg'] at h1
    cases h1
  have hsg : s ≠ g := by omega
  obtain ⟨ow', how⟩ : ∃ ow' : Nat → Nat, ow' = fun r => if r = g then g + 2 else if r = b then s + 2 else ow r := ⟨_, rfl⟩
  have og : ow' g = g + 2 := by rw [how]; exact if_pos rfl
  have ob : ow' b = s + 2 := by rw [how]; show (if _ then _ else _) = _; rw [if_neg hbg, if_pos rfl]
  have hold : ∀ r, r < w.heap.size → ow' r = ow r := fun r hr => by
    rw [how]
    show (if _ then _ else _) = _
    rw [if_neg (by omega)]
    split
    · rename_i e
      subst e
      rcases hob with h | h
      · exact h.symm
      · omega
    · rfl
  have hk' : ∀ {S : Nat → Prop}, (∀ r, S r → ow r ≠ s + 2) → KeepsP S w w' := fun {S} hS =>
    ⟨hkp.os, hkp.tape, hkp.output, hkp.size, fun r o hr ho => hkp.block r o ⟨hS r hr, (Array.getElem?_eq_some_iff.1 ho).1⟩ ho⟩
  refine ⟨ow', ⟨(hold s hsl).trans H.own, ⟨_, hb, .inr ⟨b, rfl, ob, hM⟩⟩, fun e he => ?_, fun e he => ?_, ?_, ?_, fun e he => ?_, by have := H.len; simp; omega, fun r hr => ?_, ⟨H.wf.1, by have := H.wf.2; omega⟩⟩, hk' fun r hr => by omega, hold⟩
  · rcases List.mem_append.1 he with he | he
    · have hnes := H.ne he
      exact (H.hist e he).keep (hk' fun r hr => by omega) (fun r h _ => hold r h)
    · rw [List.mem_singleton.1 he]
      exact ⟨og, _, _, hg, OwnL.nil _ _ _ _, OwnL.nil _ _ _ _, fun b e => (by cases e), fun b e => (by cases e)⟩
  · rcases List.mem_append.1 he with he | he
    · exact (H.bytes e he).keep (hk' fun r hr => by omega) (fun r h _ => hold r h)
    · rw [List.mem_singleton.1 he]
      exact ⟨by simp, by simp⟩
  · rw [List.map_append]
    exact List.nodup_append.2 ⟨H.keys, by simp, fun a ha c hc e => by
      obtain ⟨x, hx, rfl⟩ := List.mem_map.1 ha
      simp at hc
      exact hne x hx (e.trans hc)⟩
  · rw [List.map_append]
    exact List.nodup_append.2 ⟨H.apart, by simp, fun a ha c hc e => by
      obtain ⟨x, hx, rfl⟩ := List.mem_map.1 ha
      simp at hc
      have := (H.hist x hx).lt
      omega⟩
  · rcases List.mem_append.1 he with he | he
    · have := H.few e he
      exact ⟨by omega, by omega, this.2.2⟩
    · rw [List.mem_singleton.1 he]
      exact ⟨Nat.zero_le _, Nat.zero_le _, hk⟩
  · rw [how] at hr
    by_cases h1 : r = g
    · rw [h1]; exact hg.lt
    · by_cases h2 : r = b
      · rw [h2]; exact hM.lt
      · simp [h1, h2] at hr
        exact Nat.lt_of_lt_of_le (H.low r hr) hkp.size
end
section
variable {ow ow' : Nat → Nat} {w w' : World} {s N : Nat} {W : Int} {es : List Ent}
def Vw.p (v : Vw) : Vp := ⟨v.t, v.is, v.x.zs⟩
def Ent.p (e : Ent) : List UInt8 × Hp := (e.k, ⟨e.vs.map (·.zs), e.us.map Vw.p⟩)
def absL (es : List Ent) : Lp := es.map Ent.p
theorem abs_keys (es : List Ent) : keysP (absL es) = es.map (·.k) := by
  unfold keysP absL
  rw [List.map_map]
  rfl
theorem abs_set {i : Nat} {e e' : Ent} (hd : (es.map (·.k)).Nodup) (hi : es[i]? = some e) (hk : e'.k = e.k) {f : Hp → Hp} (hf : e'.p.2 = f e.p.2) : absL (es.set i e') = modP e.k f (absL es) := by
  unfold absL modP
  rw [List.map_map]
  apply List.ext_getElem?
  intro j
  rw [List.getElem?_map, List.getElem?_set, List.getElem?_map]
  have hil := (List.getElem?_eq_some_iff.1 hi).1
  by_cases hj : i = j
  · subst hj
    rw [if_pos rfl, if_pos hil, hi]
    show some e'.p = some (if e.k = e.k then _ else _)
    rw [if_pos rfl, ← hf]
    show some (e'.k, e'.p.2) = _
    rw [hk]
    rfl
  · rw [if_neg hj]
    cases hx : es[j]? with
    | none => rfl
    | some x =>
      have hjl := (List.getElem?_eq_some_iff.1 hx).1
      have hne : x.k ≠ e.k := fun h0 => by
        have h3 := List.pairwise_iff_getElem.1 hd
        have li : i < (es.map (·.k)).length := by simpa using hil
        have lj : j < (es.map (·.k)).length := by simpa using hjl
        have h1 : (es.map (·.k))[i]? = some e.k := by rw [List.getElem?_map, hi]; rfl
        have h2 : (es.map (·.k))[j]? = some x.k := by rw [List.getElem?_map, hx]; rfl
        rw [List.getElem?_eq_getElem li] at h1
        rw [List.getElem?_eq_getElem lj] at h2
        injection h1 with h1
        injection h2 with h2
        rcases Nat.lt_or_ge i j with h | h
        · exact h3 i j li lj h (by rw [h1, h2, h0])
        · exact h3 j i lj li (by omega) (by rw [h1, h2, h0])
      show some x.p = some (if x.k = e.k then _ else _)
      rw [if_neg hne]
theorem abs_app (es fs : List Ent) : absL (es ++ fs) = absL es ++ absL fs := List.map_append
theorem abs_mem {e : Ent} (he : e ∈ es) : e.p ∈ absL es := List.mem_map.2 ⟨e, he, rfl⟩
theorem Sto.ent (H : Sto ow w s W N es) {e : Ent} (he : e ∈ es) : entP (absL es) e.k = some e.p.2 := ent_at (L := absL es) (by rw [abs_keys]; exact H.keys) (abs_mem he)
theorem ent_no {k : Nm} (h : ∀ e ∈ es, e.k ≠ k) : entP (absL es) k = none := ent_none.2 (by
  rw [abs_keys, List.mem_map]
  rintro ⟨e, he, h0⟩
  exact h e he h0)
theorem Sto.turn {mv : Value} {W' : Int} (H : Sto ow w s W N es) (hb0 : Blk w s 64 #[mv, .int .i64 W]) (hg : w.grownBy w' (some s)) (hb : Blk w' s 64 #[mv, .int .i64 W']) (hW : 0 ≤ W' ∧ W' ≤ N) : Sto ow w' s W' N es ∧ Chg ow ow w w' := by
  have hk : ∀ {S : Nat → Prop}, (∀ r, S r → r ≠ s) → KeepsP S w w' := fun {S} hS => KeepsP.of_grown hg fun r e hr => by cases e; exact hS _ hr rfl
  refine ⟨⟨H.own, ?_, fun e he => ?_, fun e he => ?_, H.keys, H.apart, H.few, H.len, fun r hr => Nat.lt_of_lt_of_le (H.low r hr) hg.size, hW⟩, hk fun r hr e => by subst e; have := H.own; omega, fun _ _ => rfl⟩
  · obtain ⟨mv', hb1, hm⟩ := H.blk
    have e : mv' = mv := by
      have h1 : w.heap[s]? = some (.cells #[mv', .int .i64 W] 64 (0, 0)) := hb1
      have h2 : w.heap[s]? = some (.cells #[mv, .int .i64 W] 64 (0, 0)) := hb0
      rw [h1] at h2
      simpa using h2
    subst e
    refine ⟨mv', hb, hm.imp id fun ⟨b, e1, e2, e3⟩ => ⟨b, e1, e2, e3.kept hg fun e => ?_⟩⟩
    injection e with e
    subst e
    obtain ⟨es', clock, h1⟩ := e3.obj
    have h2 : w.heap[b]? = some (.cells #[mv', .int .i64 W] 64 (0, 0)) := hb1
    rw [h1] at h2
    cases h2
  · have := H.ne he
    exact (H.hist e he).keep (hk fun r hr e1 => by subst e1; have := H.own; omega) (fun _ _ _ => rfl)
  · exact (H.bytes e he).keep (hk fun r hr e1 => by subst e1; have := H.own; omega) (fun _ _ _ => rfl)
theorem Sto.take (H : Sto ow w s W N es) (hb : Below w.heap.size w w') {y : Bs} (hy : Rd (fun b => w.heap.size ≤ b) w' y) : ∃ ow', Sto ow' w' s W N es ∧ Chg ow ow' w w' ∧ Rd (fun r => ow' r = 1) w' y := by
  obtain ⟨yb, hyb⟩ : ∃ yb : Option Nat, yb = if y.n = 0 then none else y.A.map (·.block) := ⟨_, rfl⟩
  have h1 : ∀ r, yb = some r → w.heap.size ≤ r ∧ r < w'.heap.size := fun r e => by
    rw [e] at hyb
    split at hyb
    · cases hyb
    · rename_i hn
      obtain ⟨b, off, e1, hlt, _⟩ := hy.1.2.2 (by omega)
      rw [e1] at hyb
      simp at hyb
      exact ⟨by rw [hyb]; exact hy.2.2 b off none e1 (by omega), by rw [hyb]; exact hlt⟩
  have hold : ∀ r, ow r ≠ 0 → (if yb = some r then 1 else ow r) = ow r := fun r hr => by
    rw [if_neg]
    intro e
    have := (h1 r e).1
    have := H.low r hr
    omega
  refine ⟨fun r => if yb = some r then 1 else ow r, (H.below hb).label hold (fun r hr => ?_), ⟨KeepsP.of_below hb, fun r hr => ?_⟩, hy.1, hy.2.1, fun b off p e hn => ?_⟩
  · by_cases e : yb = some r
    · exact (h1 r e).2
    · simp [e] at hr
      exact Nat.lt_of_lt_of_le (H.low r hr) hb.size
  · show (if _ then _ else _) = _
    rw [if_neg]
    intro e
    have := (h1 r e).1
    omega
  · show (if _ then _ else _) = _
    rw [if_pos]
    rw [hyb, if_neg (by omega), e]
    rfl
theorem Chg.rd (h : Chg ow ow' w w') (hl : ∀ r, ow r ≠ 0 → r < w.heap.size) {y : Bs} (hy : Rd (fun r => ow r = 1) w y) : Rd (fun r => ow' r = 1) w' y :=
  (hy.keep (h.keep.less fun r hr => by omega)).less (S' := fun r => ow' r = 1) fun b hb _ => by rw [h.same b (hl b (by omega))]; exact hb
theorem Sto.push {w1 w2 w3 : World} (H : Sto ow w s W N es) {i : Nat} {e : Ent} (hi : es[i]? = some e) {y : Bs} (hy : Rd (fun r => ow r = 1) w y) {vv ww v' : Value} (hb : Blk w e.h 71 #[vv, ww]) (hv : OwnL kB 31 w 0 vv e.vs) (hw : OwnL kV 73 w 0 ww e.us)
    (ho1 : ∀ b, vv.ownBlock = some b → ow b = e.h + 2) (ho2 : ∀ b, ww.ownBlock = some b → ow b = e.h + 2) (g1 : w.grownBy w1 none) (o2 : OwnL kB 31 w2 0 v' (e.vs ++ [y])) (g2 : w1.grownBy w2 vv.ownBlock) (n2 : v'.ownBlock = vv.ownBlock ∨ v'.ownBlock = some w1.heap.size)
    (q3 : Blk w3 e.h 71 #[v', ww]) (g3 : w2.grownBy w3 (some e.h)) : ∃ ow', Sto ow' w3 s W (N + 1) (es.set i { e with vs := e.vs ++ [y] }) ∧ Chg ow ow' w w3 := by
  have hm := List.mem_of_getElem? hi
  have hf := H.few e hm
  have hoh : ow e.h = e.h + 2 := (H.hist e hm).1
  have hsz := Nat.le_trans g1.size (Nat.le_trans g2.size g3.size)
  have KP : KeepsP (fun r => ow r ≠ e.h + 2 ∧ r < w.heap.size) w w3 := (KeepsP.of_grown g1 (fun r e => by cases e)).trans ((KeepsP.of_grown g2 (fun r e' hr => hr.1 (ho1 r e'))).trans (KeepsP.of_grown g3 (fun r e' hr => by cases e'; exact hr.1 hoh)))
  have hk1 : KeepsP (fun r => ow r = 1) w w3 := ⟨KP.os, KP.tape, KP.output, KP.size, fun r o hr ho => KP.block r o ⟨by have h0 : ow r = 1 := hr; omega, (Array.getElem?_eq_some_iff.1 ho).1⟩ ho⟩
  have hh2 : Blk w2 e.h 71 #[vv, ww] := (Blk.grown hb g1 (by simp)).grown g2 (fun e' => OwnL.ne_blk hv hb (by decide) e'.symm)
  have o3 : OwnL kB 31 w3 0 v' (e.vs ++ [y]) := OwnL.kept o2 g3 (.inr fun e' => OwnL.ne_blk o2 hh2 (by decide) e')
  have hw1 : OwnL kV 73 w1 0 ww e.us := OwnL.kept hw g1 (by cases ww.ownBlock <;> simp)
  have hv1 : OwnL kB 31 w1 0 vv e.vs := OwnL.kept hv g1 (by cases vv.ownBlock <;> simp)
  have hw2 : OwnL kV 73 w2 0 ww e.us := OwnL.kept hw1 g2 (by
    cases e0 : ww.ownBlock with
    | none => exact .inl rfl
    | some g =>
      refine .inr fun e' => ?_
      rcases hw1.2 with ⟨rfl, _⟩ | ⟨g', cap, cur, rfl, _, hg, _⟩
      · cases e0
      · rcases hv1.2 with ⟨rfl, _⟩ | ⟨g2', cap2, cur2, rfl, _, hg2, _⟩
        · cases e'
        · have e1 : some g' = some g := e0
          have e2 : some g = some g2' := e'
          injection e1 with e1
          injection e2 with e2
          subst e1
          subst e2
          rw [hg] at hg2
          cases hg2)
  have hw3 : OwnL kV 73 w3 0 ww e.us := OwnL.kept hw2 g3 (.inr fun e' => OwnL.ne_blk hw2 hh2 (by decide) e')
  have key : ∀ r, v'.ownBlock = some r → ow r = e.h + 2 ∨ (w.heap.size ≤ r ∧ r < w3.heap.size) := fun r e' => by
    rcases n2 with n2 | n2
    · exact .inl (ho1 r (n2 ▸ e'))
    · rw [n2] at e'
      injection e' with e'
      subst e'
      exact .inr ⟨g1.size, (OwnL.lt o3 _ n2).2⟩
  obtain ⟨ow', how⟩ : ∃ ow' : Nat → Nat, ow' = fun r => if v'.ownBlock = some r then e.h + 2 else ow r := ⟨_, rfl⟩
  have hold : ∀ r, r < w.heap.size → ow' r = ow r := fun r hr => by
    rw [how]
    show (if _ then _ else _) = _
    split
    · rename_i e'
      rcases key r e' with h0 | h0
      · exact h0.symm
      · omega
    · rfl
  have hin : ∀ r, ow r = e.h + 2 → ow' r = e.h + 2 := fun r h => by
    rw [how]
    show (if _ then _ else _) = _
    split
    · rfl
    · exact h
  refine ⟨ow', (H.more (Nat.le_succ N)).upd hi KP hold (fun r hr => ?_) ⟨hin _ hoh, v', ww, q3, o3, hw3, fun b e' => by rw [how]; exact if_pos e', fun b e' => hin _ (ho2 b e')⟩ ?_ ⟨by simp; omega, by omega⟩⟩
  · rw [how] at hr
    by_cases e' : v'.ownBlock = some r
    · rcases key r e' with h0 | h0
      · exact Nat.lt_of_lt_of_le (H.low r (by omega)) hsz
      · exact h0.2
    · simp [e'] at hr
      exact Nat.lt_of_lt_of_le (H.low r hr) hsz
  · have hbt := (H.bytes e hm).keep hk1 (fun r h _ => hold r h)
    have hy3 : Rd (fun r => ow' r = 1) w3 y := (hy.keep hk1).less (S' := fun r => ow' r = 1) fun b hb' _ => by rw [hold b (H.low b (by omega))]; exact hb'
    refine ⟨fun x hx => ?_, hbt.us⟩
    rcases List.mem_append.1 hx with hx | hx
    · exact hbt.vs x hx
    · rw [List.mem_singleton.1 hx]; exact hy3
end
end Go.Proofs.Ytbippmbcgkicaaa.Sto
namespace Go.Proofs.Ytbippmbcgkicaaa.Sto
open Go.RowKit Go.Shelf Go.Proofs.Ytbippmbcgkicaaa Mem Held
open Go.Maps (Keyed string_keyed)
section
variable {β : Type} {E : EK β} {P : Program} {S : World → Prop} {ρ : Operand → Value} {o : Oper} {K e T : TypeId} {b n : Nat} {M : List (Nm × β)}
theorem y_lookS {m x : Operand} {k : Nm} (ho : o.op = .lookup T m x false) (hm : ρ m = .map (some b)) (hx : ρ x = encStr k) (hk : k.length ≤ maxLen) (hK : P.underlying K = some .string) (hT : P.underlying T = some (.map K e)) (hz : ∀ w, (zeroValue e).run P w = .ok (E.enc E.z) w) (h : ∀ w, S w → MpS E P K w b n M) :
    ∀ w, S w → (execOp ρ o).run P w = .ok (.value (E.enc (lookS E.z M k))) w := fun w hw => by
  have hrun := (h w hw).look hK hT hz hk
  simp [execOp, ho, hm, hx, hrun, Result.andThen]
theorem y_lookS_ok {m x : Operand} {k : Nm} (ho : o.op = .lookup T m x true) (hm : ρ m = .map (some b)) (hx : ρ x = encStr k) (hk : k.length ≤ maxLen) (hK : P.underlying K = some .string) (hT : P.underlying T = some (.map K e)) (hz : ∀ w, (zeroValue e).run P w = .ok (E.enc E.z) w) (h : ∀ w, S w → MpS E P K w b n M) :
    ∀ w, S w → (execOp ρ o).run P w = .ok (.value (.tuple #[E.enc (lookS E.z M k), .bool (decide (k ∈ M.map (·.1)))])) w := fun w hw => by
  have hrun := (h w hw).look_ok hK hT hz hk
  simp [execOp, ho, hm, hx, hrun, Result.andThen]
theorem y_look_nil {m x : Operand} {k : Nm} {z : Value} (ho : o.op = .lookup T m x false) (hm : ρ m = .map none) (hx : ρ x = encStr k) (hk : k.length ≤ maxLen) (hK : P.underlying K = some .string) (hT : P.underlying T = some (.map K e)) (hz : ∀ w, (zeroValue e).run P w = .ok z w) :
    ∀ w, S w → (execOp ρ o).run P w = .ok (.value z) w := fun w hw => by
  have hrun := Maps.look_nil (w := w) false (string_keyed hK) hT (hz w) (key_str hK hk)
  simp [execOp, ho, hm, hx, hrun, Result.andThen]
theorem y_mapnil {t ty : TypeId} {x y : Operand} {A : Option Nat} {k e : TypeId} (ho : o.op = .binOp .eql t x y ty) (hx : ρ x = .map A) (hy : ρ y = .map none) (hu : P.underlying t = some (.map k e)) :
    ∀ w, S w → (execOp ρ o).run P w = .ok (.value (.bool A.isNone)) w := Held.y_bin ho hx hy (fun w => by cases A <;> simp [eqGuard]) (fun w => run_eql_map_nil w t k e A hu)
variable {ops : Array Oper} {rest : List Oper} {a : Act} {w : World} {Q : Exit → Act → World → Prop}
theorem wpList_mapUpdate_S (hw : Region.wanted o (yielded ops a.tmps) = true) (m x y : Operand) (T K : TypeId) (k : Nm) (v : β) (ho : o.op = .mapUpdate T m x y) (b n : Nat) (M : List (Nm × β)) (hm : a.eval m = .map (some b)) (hx : a.eval x = encStr k) (hy : a.eval y = E.enc v) (hk : k.length ≤ maxLen) (hv : E.ok v) (hK : P.underlying K = some .string) (hT : P.underlying T = some (.map K e)) (hM : MpS E P K w b n M) (hn : n ≤ 1048576)
    (h : ∀ w', MpS E P K w' b (n + 1) (putS k v M) → w.grownBy w' (some b) → wpList P ops Q rest (a.put o.dst undef) w') : wpList P ops Q (o :: rest) a w := by
  obtain ⟨w', hrun, h1, h2⟩ := hM.store hK hT hn hk hv
  refine wpList_step fun _ hK' => ?_
  rw [if_pos hw]
  unfold Oper.wp
  simp [execOp, ho, hm, hx, hy, hrun, Result.andThen]
  exact hK' _ _ (h w' h1 h2)
theorem wpList_makeMap_S (E : EK β) (hw : Region.wanted o (yielded ops a.tmps) = true) (T K : TypeId) (ho : o.op = .makeMap T none)
    (h : ∀ w', MpS E P K w' w.heap.size 0 [] → w.grownBy w' none → Hid (w'.heap.size = w.heap.size + 1) → wpList P ops Q rest (a.put o.dst (.map (some w.heap.size))) w') : wpList P ops Q (o :: rest) a w := by
  have hrun := run_makeMap (P := P) T w
  refine wpList_step fun _ hK' => ?_
  rw [if_pos hw]
  unfold Oper.wp
  simp [execOp, ho, hrun, Result.andThen]
  exact hK' _ _ (h _ (MpS.made E w P K) (World.grownBy_alloc w _ none) (Lib.hid (by simp)))
end
section
variable {P : Program} {ops : Array Oper} {rest : List Oper} {o : Oper} {a : Act} {w : World} {Q : Exit → Act → World → Prop} {n : Nat} {r : Option Nat} {F : Fence}
theorem wpListIn_ran (hF : F = wideR r) (hg : o.guard = none) (ho : ∀ c, o.op ≠ .defer c) {v : Value} {w' : World} (hr : (execOp a.eval o).run P w = .ok (.value v) w') (h : wpListIn F n P ops Q rest (a.put o.dst v) w') : wpListIn F n P ops Q (o :: rest) a w := by
  subst hF
  refine wpListIn_plain hg fun K hK => ?_
  unfold Oper.wpIn
  refine ⟨fun _ _ => trivial, ?_⟩
  rw [Oper.semAt_plain (wideR r) _ _ ho, hr]
  exact hK _ _ h
end
end Go.Proofs.Ytbippmbcgkicaaa.Sto
namespace Go.Proofs.Ytbippmbcgkicaaa.Sto
open Go.RowKit Go.Shelf Go.Proofs.Ytbippmbcgkicaaa Mem Held Sl Go.Proofs.Ytbippmbcgkicaaa.Range
attribute [local irreducible] wpList wpListIn Calls
theorem zero_ptr (w : World) : (zeroValue 65).run Try.prog w = .ok (eP.enc eP.z) w := by kernel_rfl
theorem ent_keys (es : List Ent) : (es.map fun e => (e.k, some e.h)).map (·.1) = es.map (·.k) := by simp [List.map_map, Function.comp_def]
theorem look_ent {es : List Ent} (hk : (es.map (·.k)).Nodup) {e : Ent} (he : e ∈ es) : lookS (none : Option Nat) (es.map fun e => (e.k, some e.h)) e.k = some e.h :=
  lookS_at (z := none) (l := es.map fun e => (e.k, some e.h)) (by rw [ent_keys]; exact hk) (x := (e.k, some e.h)) (List.mem_map.2 ⟨e, he, rfl⟩)
theorem look_no {es : List Ent} {k : Nm} (hk : ∀ e ∈ es, e.k ≠ k) : lookS (none : Option Nat) (es.map fun e => (e.k, some e.h)) k = none :=
  lookS_none (by
    rw [ent_keys, List.mem_map]
    rintro ⟨e, he, h⟩
    exact hk e he h)
set_option maxRecDepth 100000 in
set_option maxHeartbeats 4000000 in
theorem new_any (w : World) : Calls Try.prog 7 #[] w fun r w' => ∃ s ow, r = .returned (.pointer (some ⟨s, 0, none⟩)) ∧ Sto ow w' s 0 0 [] ∧ Below w.heap.size w w' ∧ (∀ b, ow b ≠ 0 → w.heap.size ≤ b) := by
  go_enter Try.func7, Try.ntmps7
  go_wp2_with (refine wpList_box_blk (w := w) rfl 64 _ rfl _ rfl ?_; intro u1 qu1 gu1 zu1)
  go_ret
  refine ⟨_, fun r => if r = w.heap.size then w.heap.size + 2 else 0, rfl, ⟨by simp, ⟨_, qu1, .inl ⟨rfl, rfl⟩⟩, by simp, by simp, by simp, by simp, by simp, by simp, fun r hr => ?_, by simp⟩, (Below.refl _ w).grown gu1 (Nat.le_refl _) (by simp), fun b hb => ?_⟩
  · by_cases h : r = w.heap.size
    · subst h; exact qu1.lt
    · simp [h] at hr
  · by_cases h : b = w.heap.size
    · omega
    · simp [h] at hb
set_option maxRecDepth 100000 in
set_option maxHeartbeats 4000000 in
theorem find_as {ow : Nat → Nat} {w : World} {s N : Nat} {W : Int} {es : List Ent} (H : Sto ow w s W N es) {k : Nm} (hk : k.length ≤ maxLen) :
    Calls Try.prog 32 #[.pointer (some ⟨s, 0, none⟩), encStr k] w fun r w' => r = .returned (ptrV (lookS none (es.map fun e => (e.k, some e.h)) k)) ∧ w = w' := by
  obtain ⟨mv, hb, hm⟩ := H.blk
  have hc := hb.cell (i := 0) rfl
  rcases hm with ⟨rfl, rfl⟩ | ⟨b, rfl, _, hM⟩
  · go_enter Try.func32, Try.ntmps32
    go_wp2_with (refine Held.wpList_run (w := w) rfl (y_look_nil (S := fun _ => True) rfl rfl rfl hk Try.underlying9 Try.underlying62 zero_ptr _ trivial) ?_)
    go_ret
    exact ⟨rfl, rfl⟩
  · have hrun := fun (o : Oper) (ρ : Operand → Value) (m x : Operand) (ho : o.op = .lookup 62 m x false) (h1 : ρ m = .map (some b)) (h2 : ρ x = encStr k) => y_lookS (S := fun W => W = w) ho h1 h2 hk Try.underlying9 Try.underlying62 zero_ptr (fun W hW => hW ▸ hM) w rfl
    have hz : (eP.z : Option Nat) = none := rfl
    rw [hz] at hrun
    have HR := Lib.hid hrun
    generalize hv : lookS none (es.map fun e => (e.k, some e.h)) k = v at HR
    clear hrun hz hM
    go_enter Try.func32, Try.ntmps32
    go_wp2_with (refine Held.wpList_run (w := w) rfl (HR.out _ _ _ _ rfl rfl rfl) ?_)
    go_ret
    exact ⟨rfl, rfl⟩
theorem find_some {ow : Nat → Nat} {w : World} {s N : Nat} {W : Int} {es : List Ent} (H : Sto ow w s W N es) {e : Ent} (he : e ∈ es) :
    Calls Try.prog 32 #[.pointer (some ⟨s, 0, none⟩), encStr e.k] w fun r w' => r = .returned (.pointer (some ⟨e.h, 0, none⟩)) ∧ w = w' := by
  have h := find_as H (H.few e he).2.2
  rw [look_ent H.keys he] at h
  exact h
theorem find_none {ow : Nat → Nat} {w : World} {s N : Nat} {W : Int} {es : List Ent} (H : Sto ow w s W N es) {k : Nm} (hk : k.length ≤ maxLen) (hn : ∀ e ∈ es, e.k ≠ k) :
    Calls Try.prog 32 #[.pointer (some ⟨s, 0, none⟩), encStr k] w fun r w' => r = .returned (.pointer none) ∧ w = w' := by
  have h := find_as H hk
  rw [look_no hn] at h
  exact h
theorem writes_any {ow : Nat → Nat} {w : World} {s N : Nat} {W : Int} {es : List Ent} (H : Sto ow w s W N es) :
    Calls Try.prog 30 #[.pointer (some ⟨s, 0, none⟩)] w fun r w' => r = .returned (.int .i64 W) ∧ w = w' := by
  obtain ⟨mv, hb, _⟩ := H.blk
  have hc := hb.cell (i := 1) rfl
  go_enter Try.func30, Try.ntmps30
  go_wp2
  go_ret
  exact ⟨rfl, rfl⟩
theorem versions_none {ow : Nat → Nat} {w : World} {s N : Nat} {W : Int} {es : List Ent} (H : Sto ow w s W N es) {k : Nm} (hk : k.length ≤ maxLen) (hn : ∀ e ∈ es, e.k ≠ k) :
    Calls Try.prog 29 #[.pointer (some ⟨s, 0, none⟩), encStr k] w fun r w' => r = .returned (.int .i64 0) ∧ w = w' := by
  go_enter Try.func29, Try.ntmps29
  go_wp2_with fail
  refine (find_none H hk hn).mono ?_
  rintro e w1 ⟨rfl, rfl⟩
  go_wp2_with fail
  go_ret
  exact ⟨rfl, rfl⟩
theorem versions_some {ow : Nat → Nat} {w : World} {s N : Nat} {W : Int} {es : List Ent} (H : Sto ow w s W N es) {x : Ent} (he : x ∈ es) :
    Calls Try.prog 29 #[.pointer (some ⟨s, 0, none⟩), encStr x.k] w fun r w' => r = .returned (.int .i64 (x.vs.length : Int)) ∧ w = w' := by
  obtain ⟨_, vv, ww, hb, hv, _⟩ := H.hist x he
  have hc := hb.cell (i := 0) rfl
  obtain ⟨A, n, c, rfl, hn, _⟩ := hv.form2
  rw [hn.out]
  have HF := Lib.hid (find_some H he)
  clear hv
  go_enter Try.func29, Try.ntmps29
  go_wp2_with fail
  refine HF.out.mono ?_
  rintro e w1 ⟨rfl, rfl⟩
  go_wp2_with fail
  go_ret
  exact ⟨rfl, rfl⟩
theorem copied_any {S : Nat → Prop} {w : World} {x : Bs} (h : Rd S w x) : Calls Try.prog 40 #[.slice x.A x.n x.c] w fun r w' =>
    ∃ y : Bs, r = .returned (.slice y.A y.n y.c) ∧ y.zs = x.zs ∧ Mem.Own w' w.heap.size 5 .u8 (.slice y.A y.n y.c) x.zs ∧ Rd (fun b => w.heap.size ≤ b) w' y ∧ Below w.heap.size w w' := by
  obtain ⟨h1, h2, h3⟩ := h
  go_enter Try.func40, Try.ntmps40
  go_wp2_with (at_builtin; refine wpList_append_ints _ rfl _ _ 31 rfl w.heap.size 5 .u8 1 Try.underlying31 Help.info_u8 (.slice none 0 0) [] rfl (Own.nil _ _ _ _) w.heap.size x.A x.n x.c x.zs rfl h1 (by simp; omega) (by omega) (Nat.le_refl _) ?_; intro v1 w1 hown1 hg1 hat1)
  go_ret
  have ho : Mem.Own w1 w.heap.size 5 .u8 v1 x.zs := by simpa using hown1
  obtain ⟨A, c, rfl, hle, hm, hi⟩ := ho.form
  refine ⟨⟨A, x.zs.length, c, x.zs⟩, rfl, rfl, ho, ⟨hi, by rw [h1.1]; exact h2, fun b off p e hn => ?_⟩, (Below.refl _ _).grown hg1 (Nat.le_refl _) (by simp [Value.ownBlock])⟩
  rcases ho.2.2 with ⟨e1, hn'⟩ | ⟨g, cap, cur, e1, hb, _⟩
  · injection e1 with e1
    rw [e1] at e
    cases e
  · injection e1 with e1
    rw [e1] at e
    injection e with e
    injection e with e
    omega
end Go.Proofs.Ytbippmbcgkicaaa.Sto
namespace Go.Proofs.Ytbippmbcgkicaaa.Held
open Go.RowKit
def wpAnyB (P : Program) (md : Region.Mode) (ops : Array Oper) (Q : Exit → Act → World → Prop) (T : World → Prop) (s : Nat) : Nat → Array Bool → Act → World → Prop
  | 0, listed, a, w => Region.ready md ops listed = [] ∧ Q .normal a w
  | fuel + 1, listed, a, w =>
    (Region.ready md ops listed = [] → Q .normal a w) ∧
    ∀ i ∈ Region.ready md ops listed, wpOp P ops Q i (fun a' w' => ((listed.setIfInBounds i true).getD s true = false → T w') ∧ wpAnyB P md ops Q T s fuel (listed.setIfInBounds i true) a' w') a w
section
variable {P : Program} {ops : Array Oper} {Q : Exit → Act → World → Prop} {md : Region.Mode} {T : World → Prop} {s : Nat}
theorem wpAny_of_bar : ∀ (fuel : Nat) (listed : Array Bool) (a : Act) (w : World), wpAnyB P md ops Q T s fuel listed a w → wpAny P md ops Q fuel listed a w
  | 0, _, _, _, h => h
  | fuel + 1, _, _, _, h => ⟨h.1, fun i hi => wpOp_mono (fun a' w' h' => wpAny_of_bar fuel _ a' w' h'.2) (h.2 i hi)⟩
theorem not_yet {listed : Array Bool} {j : Nat} {oj : Oper} (hj : j ∈ Region.ready md ops listed) (ho : ops[j]? = some oj) {e : Edge} (he : e ∈ oj.after) (hb : Region.binds md e = true) : listed.getD e.on true ≠ false := fun hx => by
  obtain ⟨_, o, h1, h2⟩ := mem_ready.1 hj
  obtain rfl : o = oj := by rw [h1] at ho; exact Option.some.inj ho
  have := h2 e he hb
  by_cases c : e.on < listed.size
  · simp [c] at hx this; exact absurd (this.symm.trans hx) (by simp)
  · simp [Array.getElem?_eq_none (Nat.le_of_not_lt c)] at this
structure Early (md : Region.Mode) (ops : Array Oper) (B : List Nat) (i : Nat) (oi : Oper) (listed : Array Bool) : Prop where
  ready : i ∈ Region.ready md ops listed
  free : ∀ j oj, ops[j]? = some oj → j ≠ i → listed.getD j true = false → (∀ e ∈ oj.after, Region.binds md e = true → e.on ≠ i) → oi.apart ops oj = true
  late : ∀ b ∈ B, listed.getD b true = false
def Waits (md : Region.Mode) (ops : Array Oper) (B : List Nat) (i : Nat) : Prop := i ∉ B ∧ ∀ b ∈ B, ∀ o, ops[b]? = some o → ∃ e ∈ o.after, Region.binds md e = true ∧ (e.on = i ∨ e.on ∈ B)
section
variable {B : List Nat} {i : Nat} {oi : Oper} {listed : Array Bool}
theorem Early.un (h : Early md ops B i oi listed) : listed.getD i true = false := (mem_ready.1 h.ready).1
theorem Early.waits (h : Early md ops B i oi listed) {j : Nat} {oj : Oper} (hj : j ∈ Region.ready md ops listed) (ho : ops[j]? = some oj) : ∀ e ∈ oj.after, Region.binds md e = true → e.on ≠ i :=
  fun e he hb heq => not_yet hj ho he hb (by rw [heq]; exact h.un)
theorem Early.out (h : Early md ops B i oi listed) (hw : Waits md ops B i) {j : Nat} (hj : j ∈ Region.ready md ops listed) : j ∉ B := fun hjB => by
  obtain ⟨_, oj, ho, _⟩ := mem_ready.1 hj
  obtain ⟨e, he, hb, hor⟩ := hw.2 j hjB oj ho
  rcases hor with h1 | h1
  · exact h.waits hj ho e he hb h1
  · exact not_yet hj ho he hb (h.late _ h1)
theorem Early.next (h : Early md ops B i oi listed) (hw : Waits md ops B i) {j : Nat} (hj : j ∈ Region.ready md ops listed) (hji : j ≠ i) : Early md ops B i oi (listed.setIfInBounds j true) where
  ready := ready_mono h.ready (Ne.symm hji)
  free k ok hk hki hun hno := h.free k ok hk hki (by
    by_cases e : j = k
    · exact e ▸ (mem_ready.1 hj).1
    · rwa [getD_set_ne true e] at hun) hno
  late b hb := by rw [getD_set_ne true (show ¬ j = b from fun e => h.out hw hj (by rw [e]; exact hb))]; exact h.late b hb
end
theorem wpAnyB_early {i : Nat} {oi : Oper} {v : Value} (hi : ops[i]? = some oi) (hsel : ∀ (j : Nat) (o : Oper) cs b, ops[j]? = some o → o.op ≠ .select cs b)
    (hQ : ∀ c a w, Q (.panic c) (a.put oi.dst v) w → Q (.panic c) a w) {B : List Nat} (hs : s ∈ B) (hw : Waits md ops B i) :
    ∀ (fuel : Nat) {listed : Array Bool} {a : Act} {w : World}, Early md ops B i oi listed → YieldsIf P ops T oi v a → T w →
      wpAnyB P md ops Q T s fuel (listed.setIfInBounds i true) (a.put oi.dst v) w → wpAnyB P md ops Q T s (fuel + 1) listed a w
  | fuel, listed, a, w, h, hy, hT, H => by
    refine ⟨fun h0 => absurd (h0 ▸ h.ready) (by simp), fun j hj => ?_⟩
    by_cases hji : j = i
    · exact hji ▸ hy.wpOp hi hT ⟨fun _ => hT, H⟩
    · match fuel, H with
      | 0, H => exact absurd (H.1 ▸ ready_mono hj hji) (by simp)
      | fuel + 1, H =>
        obtain ⟨hun, oj, ho, _⟩ := mem_ready.1 hj
        have step := wpOp_putIf ho (h.free j oj ho hji hun (h.waits hj ho)) (fun cs b => hsel i oi cs b hi) (fun cs b => hsel j oj cs b ho) hQ hy (H.2 j (ready_mono hj hji))
        have n := h.next hw hj hji
        refine wpOp_mono (fun a' w' k => ?_) step
        obtain ⟨k1, k2, k3⟩ := k
        rw [Array.setIfInBounds_comm _ _ (Ne.symm hji)] at k2 k3
        have hT' : T w' := k2 (by rw [getD_set_ne true (show ¬ i = s from fun e => hw.1 (by rw [e]; exact hs))]; exact n.late s hs)
        exact ⟨fun _ => hT', wpAnyB_early hi hsel hQ hs hw fuel n k1 hT' k3⟩
def waitsB (md : Region.Mode) (ops : Array Oper) (listed : Array Bool) (B : List Nat) (s i : Nat) : Bool :=
  B.contains s && !B.contains i && B.all fun b => !listed.getD b true && match ops[b]? with
    | some o => o.after.any fun e => Region.binds md e && (e.on == i || B.contains e.on)
    | none => false
theorem takeB (i : Nat) (d : Option Tmp) (B : List Nat) {oi : Oper} {v : Value} {fuel : Nat} {listed : Array Bool} {a : Act} {w : World} (hi : ops[i]? = some oi) (hd : oi.dst = d)
    (hs : Region.noSelect ops = true) (hf : Region.free md ops listed i = true) (hr : (Region.ready md ops listed).contains i = true) (hB : waitsB md ops listed B s i = true)
    (hQ : ∀ c a w, Q (.panic c) (a.put d v) w → Q (.panic c) a w) (hw : Region.wanted oi (yielded ops a.tmps) = true) (hy : ∀ w, T w → (execOp a.eval oi).run P w = .ok (.value v) w) (hT : T w)
    (h : wpAnyB P md ops Q T s fuel (listed.setIfInBounds i true) (a.put d v) w) : wpAnyB P md ops Q T s (fuel + 1) listed a w := by
  subst hd
  unfold waitsB at hB
  simp only [Bool.and_eq_true, List.contains_iff_mem, Bool.not_eq_true', List.all_eq_true] at hB
  obtain ⟨⟨h1, h2⟩, h3⟩ := hB
  have h2' : i ∉ B := fun hm => by rw [List.contains_iff_mem.2 hm] at h2; cases h2
  refine wpAnyB_early hi (Region.noSelect_spec hs) hQ h1 ⟨h2', fun b hb o ho => ?_⟩ fuel ⟨by simpa using hr, Region.free_spec hi hf, fun b hb => (h3 b hb).1⟩ (.inl ⟨hw, hy⟩) hT h
  have := (h3 b hb).2
  rw [ho] at this
  obtain ⟨k, hk, he⟩ := Array.any_eq_true.1 this
  simp only [Bool.and_eq_true, Bool.or_eq_true, beq_iff_eq, List.contains_iff_mem] at he
  exact ⟨o.after[k], Array.getElem_mem hk, he.1, he.2⟩
theorem oneB (i : Nat) {fuel : Nat} {listed : Array Bool} {a : Act} {w : World} (hr : Region.ready md ops listed = [i])
    (h : wpOp P ops Q i (fun a' w' => ((listed.setIfInBounds i true).getD s true = false → T w') ∧ wpAnyB P md ops Q T s fuel (listed.setIfInBounds i true) a' w') a w) : wpAnyB P md ops Q T s (fuel + 1) listed a w :=
  ⟨fun h0 => absurd (hr ▸ h0) (by simp), fun j hj => by rw [hr] at hj; obtain rfl := List.mem_singleton.1 hj; exact h⟩
theorem doneB {listed : Array Bool} {a : Act} {w : World} (hr : Region.ready md ops listed = []) (h : Q .normal a w) : ∀ fuel, wpAnyB P md ops Q T s fuel listed a w
  | 0 => ⟨hr, h⟩
  | _ + 1 => ⟨fun _ => h, by rw [hr]; simp⟩
theorem wp_region_bar {id : Nat} {a : Act} {w : World} (hm : P.follows .mixedOrders = true)
    (h : wpAnyB P .any ops Q T s ops.size (Array.replicate ops.size false) a { w with drawn := w.drawn + 1 }) : (Code.region id ops true).wp P Q a w :=
  wp_region_any hm (wpAny_of_bar _ _ _ _ h)
theorem wpIn_region_barR {n : Nat} {r : Option Nat} {F : Fence} (hF : F = wideR r) {id : Nat} {a : Act} {w : World} (hm : P.follows .mixedOrders = true) (hd : noDefer ops = true) (hq : ∀ a w, ¬ Q .outgrown a w)
    (h : wpAnyB P .any ops Q T s ops.size (Array.replicate ops.size false) a { w with drawn := w.drawn + 1 }) : (Code.region id ops true).wpIn F n P Q a w := by
  subst hF
  exact wpIn_region_any hm (anyIn_of_any hd hq _ _ _ _ (wpAny_of_bar _ _ _ _ h))
end
end Go.Proofs.Ytbippmbcgkicaaa.Held
namespace Go.Proofs.Ytbippmbcgkicaaa.Held
open Go.RowKit
section
variable {P : Program} {ops : Array Oper} {Q : Exit → Act → World → Prop} {md : Region.Mode} {T : World → Prop} {s : Nat}
theorem wpAnyB_alone {i : Nat} {oi : Oper} {v : Value} (hi : ops[i]? = some oi) (hsel : ∀ (j : Nat) (o : Oper) cs b, ops[j]? = some o → o.op ≠ .select cs b)
    (hQ : ∀ c a w, Q (.panic c) (a.put oi.dst v) w → Q (.panic c) a w) (hs : i ≠ s) :
    ∀ (fuel : Nat) {listed : Array Bool} {a : Act} {w : World}, Early md ops [] i oi listed → YieldsIf P ops (fun _ => True) oi v a → (listed.getD s true = false → T w) →
      wpAnyB P md ops Q T s fuel (listed.setIfInBounds i true) (a.put oi.dst v) w → wpAnyB P md ops Q T s (fuel + 1) listed a w
  | fuel, listed, a, w, h, hy, hT, H => by
    refine ⟨fun h0 => absurd (h0 ▸ h.ready) (by simp), fun j hj => ?_⟩
    by_cases hji : j = i
    · refine hji ▸ hy.wpOp hi trivial ⟨fun e => hT (by rwa [getD_set_ne true hs] at e), H⟩
    · match fuel, H with
      | 0, H => exact absurd (H.1 ▸ ready_mono hj hji) (by simp)
      | fuel + 1, H =>
        obtain ⟨hun, oj, ho, _⟩ := mem_ready.1 hj
        have step := wpOp_putIf ho (h.free j oj ho hji hun (h.waits hj ho)) (fun cs b => hsel i oi cs b hi) (fun cs b => hsel j oj cs b ho) hQ hy (H.2 j (ready_mono hj hji))
        have n := h.next ⟨by simp, fun b hb => by cases hb⟩ hj hji
        refine wpOp_mono (fun a' w' k => ?_) step
        obtain ⟨k1, k2, k3⟩ := k
        rw [Array.setIfInBounds_comm _ _ (Ne.symm hji)] at k2 k3
        have hT' : (listed.setIfInBounds j true).getD s true = false → T w' := fun e => k2 (by rw [getD_set_ne true hs]; exact e)
        exact ⟨hT', wpAnyB_alone hi hsel hQ hs fuel n k1 hT' k3⟩
theorem takeA (i : Nat) (d : Option Tmp) {oi : Oper} {v : Value} {fuel : Nat} {listed : Array Bool} {a : Act} {w : World} (hi : ops[i]? = some oi) (hd : oi.dst = d)
    (hs : Region.noSelect ops = true) (hf : Region.free md ops listed i = true) (hr : (Region.ready md ops listed).contains i = true) (hne : i ≠ s)
    (hQ : ∀ c a w, Q (.panic c) (a.put d v) w → Q (.panic c) a w) (hw : Region.wanted oi (yielded ops a.tmps) = true) (hy : ∀ w, True → (execOp a.eval oi).run P w = .ok (.value v) w) (hT : listed.getD s true = false → T w)
    (h : wpAnyB P md ops Q T s fuel (listed.setIfInBounds i true) (a.put d v) w) : wpAnyB P md ops Q T s (fuel + 1) listed a w := by
  subst hd
  exact wpAnyB_alone hi (Region.noSelect_spec hs) hQ hne fuel ⟨by simpa using hr, Region.free_spec hi hf, fun b hb => by cases hb⟩ (.inl ⟨hw, hy⟩) hT h
end
end Go.Proofs.Ytbippmbcgkicaaa.Held
