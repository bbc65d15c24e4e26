/-
  Package store's New, find, Versions, Writes, copied, by their contracts.
  A region that draws its order and in the end stores into what it has loaded: what is loaded ahead of a store that waits for it may be taken first, as long as a condition holds till that store.
  A region that draws its order and stores into what it has loaded: what hangs on no memory may be taken first, whatever waits for it.
  Lists of structs of the call's own, at the operations of a region that draws its order and outside it: read at a place, stored into, appended to; a list of values of one cell built: no program here.
-/
import Derived.Test.YtbippmbcgkicaaaB3
import Derived.Test.YtbippmbcgkicaaaB2
set_option linter.unusedVariables false
namespace Go.Proofs.Ytbippmbcgkicaaa.Sto
open Go.RowKit Go.Shelf Go.Proofs.Ytbippmbcgkicaaa Mem Held Sl Go.Proofs.Ytbippmbcgkicaaa.Range
attribute [local irreducible] wpList wpListIn Calls
theorem zero_ptr (w : World) : (zeroValue 65).run Try.prog w = .ok (eP.enc eP.z) w := by kernel_rfl
theorem ent_keys (es : List Ent) : (es.map fun e => (e.k, some e.h)).map (·.1) = es.map (·.k) := by simp [List.map_map, Function.comp_def]
theorem look_ent {es : List Ent} (hk : (es.map (·.k)).Nodup) {e : Ent} (he : e ∈ es) : lookS (none : Option Nat) (es.map fun e => (e.k, some e.h)) e.k = some e.h :=
  lookS_at (z := none) (l := es.map fun e => (e.k, some e.h)) (by rw [ent_keys]; exact hk) (x := (e.k, some e.h)) (List.mem_map.2 ⟨e, he, rfl⟩)
theorem look_no {es : List Ent} {k : Nm} (hk : ∀ e ∈ es, e.k ≠ k) : lookS (none : Option Nat) (es.map fun e => (e.k, some e.h)) k = none :=
  lookS_none (by
    rw [ent_keys, List.mem_map]
    rintro ⟨e, he, h⟩
    exact hk e he h)
set_option maxRecDepth 100000 in
set_option maxHeartbeats 4000000 in
theorem new_any (w : World) : Calls Try.prog 7 #[] w fun r w' => ∃ s ow, r = .returned (.pointer (some ⟨s, 0, none⟩)) ∧ Sto ow w' s 0 0 [] ∧ Below w.heap.size w w' ∧ (∀ b, ow b ≠ 0 → w.heap.size ≤ b) := by
  go_enter Try.func7, Try.ntmps7
  go_wp2_with (refine wpList_box_blk (w := w) rfl 64 _ rfl _ rfl ?_; intro u1 qu1 gu1 zu1)
  go_ret
  refine ⟨_, fun r => if r = w.heap.size then w.heap.size + 2 else 0, rfl, ⟨by simp, ⟨_, qu1, .inl ⟨rfl, rfl⟩⟩, by simp, by simp, by simp, by simp, by simp, by simp, fun r hr => ?_, by simp⟩, (Below.refl _ w).grown gu1 (Nat.le_refl _) (by simp), fun b hb => ?_⟩
  · by_cases h : r = w.heap.size
    · subst h; exact qu1.lt
    · simp [h] at hr
  · by_cases h : b = w.heap.size
    · omega
    · simp [h] at hb
theorem find_nil (k : Nm) (w : World) : Calls Try.prog 32 #[.pointer none, encStr k] w fun r w' => r = .returned (.pointer none) ∧ w = w' := by
  go_enter Try.func32, Try.ntmps32
  go_wp2
  go_ret
  exact ⟨rfl, rfl⟩
set_option maxRecDepth 100000 in
set_option maxHeartbeats 4000000 in
theorem find_as {ow : Nat → Nat} {w : World} {s N : Nat} {W : Int} {es : List Ent} (H : Sto ow w s W N es) {k : Nm} (hk : k.length ≤ maxLen) :
    Calls Try.prog 32 #[.pointer (some ⟨s, 0, none⟩), encStr k] w fun r w' => r = .returned (ptrV (lookS none (es.map fun e => (e.k, some e.h)) k)) ∧ w = w' := by
  obtain ⟨mv, hb, hm⟩ := H.blk
  have hc := hb.cell (i := 0) rfl
  rcases hm with ⟨rfl, rfl⟩ | ⟨b, rfl, _, hM⟩
  · go_enter Try.func32, Try.ntmps32
    go_wp2_with (refine Held.wpList_run (w := w) rfl (y_look_nil (S := fun _ => True) rfl rfl rfl hk Try.underlying9 Try.underlying62 zero_ptr _ trivial) ?_)
    go_ret
    exact ⟨rfl, rfl⟩
  · have hrun := fun (o : Oper) (ρ : Operand → Value) (m x : Operand) (ho : o.op = .lookup 62 m x false) (h1 : ρ m = .map (some b)) (h2 : ρ x = encStr k) => y_lookS (S := fun W => W = w) ho h1 h2 hk Try.underlying9 Try.underlying62 zero_ptr (fun W hW => hW ▸ hM) w rfl
    have hz : (eP.z : Option Nat) = none := rfl
    rw [hz] at hrun
    have HR := Lib.hid hrun
    generalize hv : lookS none (es.map fun e => (e.k, some e.h)) k = v at HR
    clear hrun hz hM
    go_enter Try.func32, Try.ntmps32
    go_wp2_with (refine Held.wpList_run (w := w) rfl (HR.out _ _ _ _ rfl rfl rfl) ?_)
    go_ret
    exact ⟨rfl, rfl⟩
theorem find_some {ow : Nat → Nat} {w : World} {s N : Nat} {W : Int} {es : List Ent} (H : Sto ow w s W N es) {e : Ent} (he : e ∈ es) :
    Calls Try.prog 32 #[.pointer (some ⟨s, 0, none⟩), encStr e.k] w fun r w' => r = .returned (.pointer (some ⟨e.h, 0, none⟩)) ∧ w = w' := by
  have h := find_as H (H.few e he).2.2
  rw [look_ent H.keys he] at h
  exact h
theorem find_none {ow : Nat → Nat} {w : World} {s N : Nat} {W : Int} {es : List Ent} (H : Sto ow w s W N es) {k : Nm} (hk : k.length ≤ maxLen) (hn : ∀ e ∈ es, e.k ≠ k) :
    Calls Try.prog 32 #[.pointer (some ⟨s, 0, none⟩), encStr k] w fun r w' => r = .returned (.pointer none) ∧ w = w' := by
  have h := find_as H hk
  rw [look_no hn] at h
  exact h
theorem writes_nil (w : World) : Calls Try.prog 30 #[.pointer none] w fun r w' => r = .returned (.int .i64 0) ∧ w = w' := by
  go_enter Try.func30, Try.ntmps30
  go_wp2
  go_ret
  exact ⟨rfl, rfl⟩
theorem writes_any {ow : Nat → Nat} {w : World} {s N : Nat} {W : Int} {es : List Ent} (H : Sto ow w s W N es) :
    Calls Try.prog 30 #[.pointer (some ⟨s, 0, none⟩)] w fun r w' => r = .returned (.int .i64 W) ∧ w = w' := by
  obtain ⟨mv, hb, _⟩ := H.blk
  have hc := hb.cell (i := 1) rfl
  go_enter Try.func30, Try.ntmps30
  go_wp2
  go_ret
  exact ⟨rfl, rfl⟩
theorem versions_nil (k : Nm) (w : World) : Calls Try.prog 29 #[.pointer none, encStr k] w fun r w' => r = .returned (.int .i64 0) ∧ w = w' := by
  go_enter Try.func29, Try.ntmps29
  go_wp2_with fail
  refine (find_nil k w).mono ?_
  rintro e w1 ⟨rfl, rfl⟩
  go_wp2_with fail
  go_ret
  exact ⟨rfl, rfl⟩
theorem copied_any {S : Nat → Prop} {w : World} {x : Bs} (h : Rd S w x) : Calls Try.prog 40 #[.slice x.A x.n x.c] w fun r w' =>
    ∃ y : Bs, r = .returned (.slice y.A y.n y.c) ∧ y.zs = x.zs ∧ Mem.Own w' w.heap.size 5 .u8 (.slice y.A y.n y.c) x.zs ∧ Rd (fun b => w.heap.size ≤ b) w' y ∧ Below w.heap.size w w' := by
  obtain ⟨h1, h2, h3⟩ := h
  go_enter Try.func40, Try.ntmps40
  go_wp2_with (at_builtin; refine wpList_append_ints _ rfl _ _ 31 rfl w.heap.size 5 .u8 1 Try.underlying31 Help.info_u8 (.slice none 0 0) [] rfl (Own.nil _ _ _ _) w.heap.size x.A x.n x.c x.zs rfl h1 (by simp; omega) (by omega) (Nat.le_refl _) ?_; intro v1 w1 hown1 hg1 hat1)
  go_ret
  have ho : Mem.Own w1 w.heap.size 5 .u8 v1 x.zs := by simpa using hown1
  obtain ⟨A, c, rfl, hle, hm, hi⟩ := ho.form
  refine ⟨⟨A, x.zs.length, c, x.zs⟩, rfl, rfl, ho, ⟨hi, by rw [h1.1]; exact h2, fun b off p e hn => ?_⟩, (Below.refl _ _).grown hg1 (Nat.le_refl _) (by simp [Value.ownBlock])⟩
  rcases ho.2.2 with ⟨e1, hn'⟩ | ⟨g, cap, cur, e1, hb, _⟩
  · injection e1 with e1
    rw [e1] at e
    cases e
  · injection e1 with e1
    rw [e1] at e
    injection e with e
    injection e with e
    omega
end Go.Proofs.Ytbippmbcgkicaaa.Sto
namespace Go.Proofs.Ytbippmbcgkicaaa.Held
open Go.RowKit
def wpAnyB (P : Program) (md : Region.Mode) (ops : Array Oper) (Q : Exit → Act → World → Prop) (T : World → Prop) (s : Nat) : Nat → Array Bool → Act → World → Prop
  | 0, listed, a, w => Region.ready md ops listed = [] ∧ Q .normal a w
  | fuel + 1, listed, a, w =>
    (Region.ready md ops listed = [] → Q .normal a w) ∧
    ∀ i ∈ Region.ready md ops listed, wpOp P ops Q i (fun a' w' => ((listed.setIfInBounds i true).getD s true = false → T w') ∧ wpAnyB P md ops Q T s fuel (listed.setIfInBounds i true) a' w') a w
section
variable {P : Program} {ops : Array Oper} {Q : Exit → Act → World → Prop} {md : Region.Mode} {T : World → Prop} {s : Nat}
theorem wpAny_of_bar : ∀ (fuel : Nat) (listed : Array Bool) (a : Act) (w : World), wpAnyB P md ops Q T s fuel listed a w → wpAny P md ops Q fuel listed a w
  | 0, _, _, _, h => h
  | fuel + 1, _, _, _, h => ⟨h.1, fun i hi => wpOp_mono (fun a' w' h' => wpAny_of_bar fuel _ a' w' h'.2) (h.2 i hi)⟩
theorem not_yet {listed : Array Bool} {j : Nat} {oj : Oper} (hj : j ∈ Region.ready md ops listed) (ho : ops[j]? = some oj) {e : Edge} (he : e ∈ oj.after) (hb : Region.binds md e = true) : listed.getD e.on true ≠ false := fun hx => by
  obtain ⟨_, o, h1, h2⟩ := mem_ready.1 hj
  obtain rfl : o = oj := by rw [h1] at ho; exact Option.some.inj ho
  have := h2 e he hb
  by_cases c : e.on < listed.size
  · simp [c] at hx this; exact absurd (this.symm.trans hx) (by simp)
  · simp [Array.getElem?_eq_none (Nat.le_of_not_lt c)] at this
structure Early (md : Region.Mode) (ops : Array Oper) (B : List Nat) (i : Nat) (oi : Oper) (listed : Array Bool) : Prop where
  ready : i ∈ Region.ready md ops listed
  free : ∀ j oj, ops[j]? = some oj → j ≠ i → listed.getD j true = false → (∀ e ∈ oj.after, Region.binds md e = true → e.on ≠ i) → oi.apart ops oj = true
  late : ∀ b ∈ B, listed.getD b true = false
def Waits (md : Region.Mode) (ops : Array Oper) (B : List Nat) (i : Nat) : Prop := i ∉ B ∧ ∀ b ∈ B, ∀ o, ops[b]? = some o → ∃ e ∈ o.after, Region.binds md e = true ∧ (e.on = i ∨ e.on ∈ B)
section
variable {B : List Nat} {i : Nat} {oi : Oper} {listed : Array Bool}
theorem Early.un (h : Early md ops B i oi listed) : listed.getD i true = false := (mem_ready.1 h.ready).1
theorem Early.waits (h : Early md ops B i oi listed) {j : Nat} {oj : Oper} (hj : j ∈ Region.ready md ops listed) (ho : ops[j]? = some oj) : ∀ e ∈ oj.after, Region.binds md e = true → e.on ≠ i :=
  fun e he hb heq => not_yet hj ho he hb (by rw [heq]; exact h.un)
theorem Early.out (h : Early md ops B i oi listed) (hw : Waits md ops B i) {j : Nat} (hj : j ∈ Region.ready md ops listed) : j ∉ B := fun hjB => by
  obtain ⟨_, oj, ho, _⟩ := mem_ready.1 hj
  obtain ⟨e, he, hb, hor⟩ := hw.2 j hjB oj ho
  rcases hor with h1 | h1
  · exact h.waits hj ho e he hb h1
  · exact not_yet hj ho he hb (h.late _ h1)
theorem Early.next (h : Early md ops B i oi listed) (hw : Waits md ops B i) {j : Nat} (hj : j ∈ Region.ready md ops listed) (hji : j ≠ i) : Early md ops B i oi (listed.setIfInBounds j true) where
  ready := ready_mono h.ready (Ne.symm hji)
  free k ok hk hki hun hno := h.free k ok hk hki (by
    by_cases e : j = k
    · exact e ▸ (mem_ready.1 hj).1
    · rwa [getD_set_ne true e] at hun) hno
  late b hb := by rw [getD_set_ne true (show ¬ j = b from fun e => h.out hw hj (by rw [e]; exact hb))]; exact h.late b hb
end
theorem wpAnyB_early {i : Nat} {oi : Oper} {v : Value} (hi : ops[i]? = some oi) (hsel : ∀ (j : Nat) (o : Oper) cs b, ops[j]? = some o → o.op ≠ .select cs b)
    (hQ : ∀ c a w, Q (.panic c) (a.put oi.dst v) w → Q (.panic c) a w) {B : List Nat} (hs : s ∈ B) (hw : Waits md ops B i) :
    ∀ (fuel : Nat) {listed : Array Bool} {a : Act} {w : World}, Early md ops B i oi listed → YieldsIf P ops T oi v a → T w →
      wpAnyB P md ops Q T s fuel (listed.setIfInBounds i true) (a.put oi.dst v) w → wpAnyB P md ops Q T s (fuel + 1) listed a w
  | fuel, listed, a, w, h, hy, hT, H => by
    refine ⟨fun h0 => absurd (h0 ▸ h.ready) (by simp), fun j hj => ?_⟩
    by_cases hji : j = i
    · exact hji ▸ hy.wpOp hi hT ⟨fun _ => hT, H⟩
    · match fuel, H with
      | 0, H => exact absurd (H.1 ▸ ready_mono hj hji) (by simp)
      | fuel + 1, H =>
        obtain ⟨hun, oj, ho, _⟩ := mem_ready.1 hj
        have step := wpOp_putIf ho (h.free j oj ho hji hun (h.waits hj ho)) (fun cs b => hsel i oi cs b hi) (fun cs b => hsel j oj cs b ho) hQ hy (H.2 j (ready_mono hj hji))
        have n := h.next hw hj hji
        refine wpOp_mono (fun a' w' k => ?_) step
        obtain ⟨k1, k2, k3⟩ := k
        rw [Array.setIfInBounds_comm _ _ (Ne.symm hji)] at k2 k3
        have hT' : T w' := k2 (by rw [getD_set_ne true (show ¬ i = s from fun e => hw.1 (by rw [e]; exact hs))]; exact n.late s hs)
        exact ⟨fun _ => hT', wpAnyB_early hi hsel hQ hs hw fuel n k1 hT' k3⟩
def waitsB (md : Region.Mode) (ops : Array Oper) (listed : Array Bool) (B : List Nat) (s i : Nat) : Bool :=
  B.contains s && !B.contains i && B.all fun b => !listed.getD b true && match ops[b]? with
    | some o => o.after.any fun e => Region.binds md e && (e.on == i || B.contains e.on)
    | none => false
theorem takeB (i : Nat) (d : Option Tmp) (B : List Nat) {oi : Oper} {v : Value} {fuel : Nat} {listed : Array Bool} {a : Act} {w : World} (hi : ops[i]? = some oi) (hd : oi.dst = d)
    (hs : Region.noSelect ops = true) (hf : Region.free md ops listed i = true) (hr : (Region.ready md ops listed).contains i = true) (hB : waitsB md ops listed B s i = true)
    (hQ : ∀ c a w, Q (.panic c) (a.put d v) w → Q (.panic c) a w) (hw : Region.wanted oi (yielded ops a.tmps) = true) (hy : ∀ w, T w → (execOp a.eval oi).run P w = .ok (.value v) w) (hT : T w)
    (h : wpAnyB P md ops Q T s fuel (listed.setIfInBounds i true) (a.put d v) w) : wpAnyB P md ops Q T s (fuel + 1) listed a w := by
  subst hd
  unfold waitsB at hB
  simp only [Bool.and_eq_true, List.contains_iff_mem, Bool.not_eq_true', List.all_eq_true] at hB
  obtain ⟨⟨h1, h2⟩, h3⟩ := hB
  have h2' : i ∉ B := fun hm => by rw [List.contains_iff_mem.2 hm] at h2; cases h2
  refine wpAnyB_early hi (Region.noSelect_spec hs) hQ h1 ⟨h2', fun b hb o ho => ?_⟩ fuel ⟨by simpa using hr, Region.free_spec hi hf, fun b hb => (h3 b hb).1⟩ (.inl ⟨hw, hy⟩) hT h
  have := (h3 b hb).2
  rw [ho] at this
  obtain ⟨k, hk, he⟩ := Array.any_eq_true.1 this
  simp only [Bool.and_eq_true, Bool.or_eq_true, beq_iff_eq, List.contains_iff_mem] at he
  exact ⟨o.after[k], Array.getElem_mem hk, he.1, he.2⟩
theorem oneB (i : Nat) {fuel : Nat} {listed : Array Bool} {a : Act} {w : World} (hr : Region.ready md ops listed = [i])
    (h : wpOp P ops Q i (fun a' w' => ((listed.setIfInBounds i true).getD s true = false → T w') ∧ wpAnyB P md ops Q T s fuel (listed.setIfInBounds i true) a' w') a w) : wpAnyB P md ops Q T s (fuel + 1) listed a w :=
  ⟨fun h0 => absurd (hr ▸ h0) (by simp), fun j hj => by rw [hr] at hj; obtain rfl := List.mem_singleton.1 hj; exact h⟩
theorem doneB {listed : Array Bool} {a : Act} {w : World} (hr : Region.ready md ops listed = []) (h : Q .normal a w) : ∀ fuel, wpAnyB P md ops Q T s fuel listed a w
  | 0 => ⟨hr, h⟩
  | _ + 1 => ⟨fun _ => h, by rw [hr]; simp⟩
theorem wp_region_bar {id : Nat} {a : Act} {w : World} (hm : P.follows .mixedOrders = true)
    (h : wpAnyB P .any ops Q T s ops.size (Array.replicate ops.size false) a { w with drawn := w.drawn + 1 }) : (Code.region id ops true).wp P Q a w :=
  wp_region_any hm (wpAny_of_bar _ _ _ _ h)
end
end Go.Proofs.Ytbippmbcgkicaaa.Held
namespace Go.Proofs.Ytbippmbcgkicaaa.Held
open Go.RowKit
section
variable {P : Program} {ops : Array Oper} {Q : Exit → Act → World → Prop} {md : Region.Mode} {T : World → Prop} {s : Nat}
theorem wpAnyB_alone {i : Nat} {oi : Oper} {v : Value} (hi : ops[i]? = some oi) (hsel : ∀ (j : Nat) (o : Oper) cs b, ops[j]? = some o → o.op ≠ .select cs b)
    (hQ : ∀ c a w, Q (.panic c) (a.put oi.dst v) w → Q (.panic c) a w) (hs : i ≠ s) :
    ∀ (fuel : Nat) {listed : Array Bool} {a : Act} {w : World}, Early md ops [] i oi listed → YieldsIf P ops (fun _ => True) oi v a → (listed.getD s true = false → T w) →
      wpAnyB P md ops Q T s fuel (listed.setIfInBounds i true) (a.put oi.dst v) w → wpAnyB P md ops Q T s (fuel + 1) listed a w
  | fuel, listed, a, w, h, hy, hT, H => by
    refine ⟨fun h0 => absurd (h0 ▸ h.ready) (by simp), fun j hj => ?_⟩
    by_cases hji : j = i
    · refine hji ▸ hy.wpOp hi trivial ⟨fun e => hT (by rwa [getD_set_ne true hs] at e), H⟩
    · match fuel, H with
      | 0, H => exact absurd (H.1 ▸ ready_mono hj hji) (by simp)
      | fuel + 1, H =>
        obtain ⟨hun, oj, ho, _⟩ := mem_ready.1 hj
        have step := wpOp_putIf ho (h.free j oj ho hji hun (h.waits hj ho)) (fun cs b => hsel i oi cs b hi) (fun cs b => hsel j oj cs b ho) hQ hy (H.2 j (ready_mono hj hji))
        have n := h.next ⟨by simp, fun b hb => by cases hb⟩ hj hji
        refine wpOp_mono (fun a' w' k => ?_) step
        obtain ⟨k1, k2, k3⟩ := k
        rw [Array.setIfInBounds_comm _ _ (Ne.symm hji)] at k2 k3
        have hT' : (listed.setIfInBounds j true).getD s true = false → T w' := fun e => k2 (by rw [getD_set_ne true hs]; exact e)
        exact ⟨hT', wpAnyB_alone hi hsel hQ hs fuel n k1 hT' k3⟩
theorem takeA (i : Nat) (d : Option Tmp) {oi : Oper} {v : Value} {fuel : Nat} {listed : Array Bool} {a : Act} {w : World} (hi : ops[i]? = some oi) (hd : oi.dst = d)
    (hs : Region.noSelect ops = true) (hf : Region.free md ops listed i = true) (hr : (Region.ready md ops listed).contains i = true) (hne : i ≠ s)
    (hQ : ∀ c a w, Q (.panic c) (a.put d v) w → Q (.panic c) a w) (hw : Region.wanted oi (yielded ops a.tmps) = true) (hy : ∀ w, True → (execOp a.eval oi).run P w = .ok (.value v) w) (hT : listed.getD s true = false → T w)
    (h : wpAnyB P md ops Q T s fuel (listed.setIfInBounds i true) (a.put d v) w) : wpAnyB P md ops Q T s (fuel + 1) listed a w := by
  subst hd
  exact wpAnyB_alone hi (Region.noSelect_spec hs) hQ hne fuel ⟨by simpa using hr, Region.free_spec hi hf, fun b hb => by cases hb⟩ (.inl ⟨hw, hy⟩) hT h
end
end Go.Proofs.Ytbippmbcgkicaaa.Held
namespace Go.Proofs.Ytbippmbcgkicaaa.Sto
open Go.RowKit Go.Shelf Go.Proofs.Ytbippmbcgkicaaa Mem Held Sl
section
variable {α : Type} {k : St α} {w : World}
theorem own_setL {e : TypeId} {base g n cap i : Nat} {xs : List α} (f : α) (hown : OwnL k e w base (.slice (some ⟨g, 0, none⟩) n cap) xs) (hi : i < xs.length) :
    w.there g (i * k.s) (k.cells f).toArray.size ∧ OwnL k e (w.setCells g (i * k.s) (k.cells f).toArray.toList) base (.slice (some ⟨g, 0, none⟩) n cap) (xs.set i f) := by
  rcases hown.2 with ⟨e', _⟩ | ⟨g', cap', cur, e', hb, hg, hnc, hcm, hcs, ht⟩
  · cases e'
  · injection e' with e1 e2 e3
    injection e1 with e1
    injection e1 with e1
    subst e1
    subst e3
    have hle : (i + 1) * k.s ≤ cap * k.s := Nat.mul_le_mul_right _ (by omega)
    have hle2 : (i + 1) * k.s ≤ xs.length * k.s := Nat.mul_le_mul_right _ (by omega)
    rw [Nat.add_mul, Nat.one_mul] at hle hle2
    have hth : w.there g (i * k.s) (k.cells f).toArray.size := fun j hj => by
      have hj' : j < k.s := by rw [List.size_toArray, k.len] at hj; exact hj
      refine ⟨?_, by simp [World.frozen?, hg]⟩
      rw [cell_of_row w g _ _ _ (0, 0) hg, Array.getElem?_eq_getElem (by omega)]
      rfl
    obtain ⟨cur', h1, h2, h3⟩ := heap_setCells (k.cells f) (i * k.s) w cur hg (by rw [k.len]; omega)
    refine ⟨hth, ?_⟩
    refine ⟨flat_length k _, .inr ⟨g, cap, cur', by rw [List.length_set]; exact congrArg (fun n => Value.slice (some ⟨g, 0, none⟩) n cap) e2, hb, h1, by rw [List.length_set]; exact hnc, hcm, by rw [h2, hcs], ?_⟩⟩
    rw [List.length_set, h3, flat_set xs i f hi, ← ht, k.len]
    have hcl : cur.toList.length = cap * k.s := by simpa using hcs
    have hl : xs.length * k.s ≤ cur.toList.length := by rw [hcl]; exact Nat.mul_le_mul_right _ hnc
    apply List.ext_getElem?
    intro j
    have hc0 : (k.cells f).length = k.s := k.len f
    have ha : (cur.toList.take (i * k.s)).length = i * k.s := by rw [List.length_take]; omega
    have ha2 : ((cur.toList.take (xs.length * k.s)).take (i * k.s)).length = i * k.s := by rw [List.length_take, List.length_take]; omega
    rw [List.getElem?_take]
    simp only [List.append_assoc, List.getElem?_append, ha, ha2, hc0, List.getElem?_take, List.getElem?_drop]
    by_cases hj : j < xs.length * k.s
    · rw [if_pos hj]
      by_cases h4 : j < i * k.s
      · rw [if_pos h4, if_pos h4, if_pos h4, if_pos h4, if_pos hj]
      · rw [if_neg h4, if_neg h4]
        by_cases h5 : j - i * k.s < k.s
        · rw [if_pos h5, if_pos h5]
        · rw [if_neg h5, if_neg h5, if_pos (by omega)]
    · rw [if_neg hj, if_neg (by omega), if_neg (by omega), if_neg (by omega)]
theorem own_range {e : TypeId} {base g n cap i : Nat} {xs : List α} (hown : OwnL k e w base (.slice (some ⟨g, 0, none⟩) n cap) xs) (hi : i < xs.length) : w.rangeAt g (0 + i * k.s) (k.cells (xs.getD i k.d)) := by
  rcases hown.2 with ⟨e', _⟩ | ⟨g', cap', cur, e', hb, hg, hnc, hcm, hcs, ht⟩
  · cases e'
  · injection e' with e1 e2 e3
    injection e1 with e1
    injection e1 with e1
    subst e1
    intro j v hv
    have hj : j < k.s := by have := (List.getElem?_eq_some_iff.1 hv).1; rwa [k.len] at this
    have hle : (i + 1) * k.s ≤ xs.length * k.s := Nat.mul_le_mul_right _ (by omega)
    rw [Nat.add_mul, Nat.one_mul] at hle
    rw [cell_of_row w g _ _ _ (0, 0) hg]
    have h1 := congrArg (fun l => l[i * k.s + j]?) ht
    simp only [List.getElem?_take, show i * k.s + j < xs.length * k.s by omega, if_true] at h1
    rw [flat_at xs i j hj hi, hv] at h1
    rw [show 0 + i * k.s + j = i * k.s + j by omega, ← h1]
    simp
theorem own_some {e : TypeId} {base n c : Nat} {A : Option Addr} {xs : List α} (hown : OwnL k e w base (.slice A n c) xs) (h0 : 0 < xs.length) : ∃ g, A = some ⟨g, 0, none⟩ ∧ n = xs.length := by
  rcases hown.2 with ⟨e', hn⟩ | ⟨g, cap, cur, e', _⟩
  · omega
  · injection e' with e1 e2 e3
    exact ⟨g, e1, e2⟩
end
section
variable {P : Program} {ops : Array Oper} {Q : Exit → Act → World → Prop} {md : Region.Mode} {T : World → Prop} {s : Nat}
theorem oneB_v (i : Nat) (d : Option Tmp) {o : Oper} {v : Value} {fuel : Nat} {listed : Array Bool} {a : Act} {w : World} (hr : Region.ready md ops listed = [i]) (hi : ops[i]? = some o) (hd : o.dst = d) (hw : Region.wanted o (yielded ops a.tmps) = true) (hy : ∀ w, True → (execOp a.eval o).run P w = .ok (.value v) w) (hs : (listed.setIfInBounds i true).getD s true = true)
    (h : Held.wpAnyB P md ops Q T s fuel (listed.setIfInBounds i true) (a.put d v) w) : Held.wpAnyB P md ops Q T s (fuel + 1) listed a w := by
  subst hd
  exact Held.oneB i hr (YieldsIf.wpOp (S := fun _ => True) hi (.inl ⟨hw, hy⟩) trivial ⟨(fun h => by rw [hs] at h; cases h), h⟩)
end
section
variable {α : Type} {k : St α} {P : Program} {ops : Array Oper} {o : Oper} {a : Act} {w : World} {Q : Exit → Act → World → Prop}
theorem run_append_lst0 (w : World) (ts ty e : TypeId) (hu : P.underlying ts = some (.slice e)) (z : Value) (bytes : Nat) (hinfo : (P.info? e).map (fun i => (i.zero, i.size, i.bytes)) = some (some z, k.s, bytes)) (hz : z.cells.size = k.s)
    (base B m c : Nat) (A : Option Addr) (v : Value) (xs ys : List α) (hown : OwnL k e w base v xs) (hq : Lst k w B A m ys) (hm : xs.length + m ≤ 1048576) (hby : bytes ≤ 1048576) (hbase : base ≤ w.heap.size) :
    ∃ v' w', (Builtin.append_ #[ts, ts] ty #[v, .slice A m c]).run P w = .ok v' w' ∧ OwnL k e w' base v' (xs ++ ys) ∧ w.grownBy w' v.ownBlock ∧ (v'.ownBlock = v.ownBlock ∨ v'.ownBlock = some w.heap.size) := by
  obtain ⟨ie, hie, hz0, hsz, hb⟩ := info_parts hinfo
  rcases Nat.eq_zero_or_pos m with h0 | h0
  · subst h0
    have e0 : ys = [] := List.eq_nil_of_length_eq_zero hq.1
    subst e0
    obtain ⟨A', c', rfl, hle, _⟩ := OwnL.form hown
    exact ⟨_, w, Mg.run_append_zero ts e hu ie hie w A' A _ c' c hle, by rw [List.append_nil]; exact hown, World.grownBy.refl w _, .inl rfl⟩
  · obtain ⟨g, off, rfl, _, hc⟩ := hq.2.2 h0
    obtain ⟨v', w', h1, h2, h3, _, h5⟩ := run_append_own_at (P := P) w base ts ty e ie z k.s bytes hu hie hz0 hsz hb hz k.pos v xs.length (flat k xs) hown ⟨g, off, none⟩ m c (flat k ys) (by rw [Sl.flat_length, hq.1])
      (fun j u hj => by rw [show (Addr.mk g off none).add j = ⟨g, off + j, none⟩ by (unfold Addr.add; split <;> simp_all)]; exact hc j u hj) (flat_cell ys) (by unfold maxLen; omega) (Nat.le_trans (Nat.mul_le_mul hm hby) (by omega)) hbase
    refine ⟨v', w', h1, ?_, h3, h5⟩
    unfold OwnL
    rw [Sl.flat_append, List.length_append, hq.1]
    exact h2
theorem op_append_lst0 (i : Nat) (d : Option Tmp) {K : Act → World → Prop} {s x : Operand} (ts e : TypeId) (hi : ops[i]? = some o) (hd : o.dst = d) (hw : Region.wanted o (yielded ops a.tmps) = true)
    (ho : o.op = .call { callee := .builtin .append, args := #[s, x], argTypes := #[ts, ts] }) (hu : P.underlying ts = some (.slice e)) (z : Value) (bytes : Nat) (hinfo : (P.info? e).map (fun i => (i.zero, i.size, i.bytes)) = some (some z, k.s, bytes)) (hz : z.cells.size = k.s)
    (base B m c : Nat) (A : Option Addr) (v : Value) (xs ys : List α) (hs : a.eval s = v) (hx : a.eval x = .slice A m c) (hown : OwnL k e w base v xs) (hq : Lst k w B A m ys) (hm : xs.length + m ≤ 1048576) (hby : bytes ≤ 1048576) (hbase : base ≤ w.heap.size)
    (h : ∀ v' w', OwnL k e w' base v' (xs ++ ys) → w.grownBy w' v.ownBlock → (v'.ownBlock = v.ownBlock ∨ v'.ownBlock = some w.heap.size) → K (a.put d v') w') : wpOp P ops Q i K a w := by
  subst hd
  obtain ⟨v', w', h1, h2, h3, h4⟩ := run_append_lst0 (P := P) w ts o.type e hu z bytes hinfo hz base B m c A v xs ys hown hq hm hby hbase
  refine Held.op_wp i hi hw ?_
  exact Lib.wp_append_run w s x ts ts ho _ _ hs hx _ w' h1 (h v' w' h2 h3 h4)
end
section
variable {α : Type} {k : St α} {P : Program} {ops : Array Oper} {rest : List Oper} {o : Oper} {a : Act} {w : World} {Q : Exit → Act → World → Prop}
theorem op_store_ownL (i : Nat) (d : Option Tmp) {K : Act → World → Prop} (e : TypeId) {x y : Operand} (base g n cap off j : Nat) (xs : List α) (f : α) (hi : ops[i]? = some o) (hd : o.dst = d) (hw : Region.wanted o (yielded ops a.tmps) = true)
    (ho : o.op = .store e x y) (hsz : (P.info? e).map (·.size) = some k.s) (hx : a.eval x = .pointer (some ⟨g, off, none⟩)) (hoff : off = j * k.s) (hy : a.eval y = .agg (k.cells f).toArray) (hown : OwnL k e w base (.slice (some ⟨g, 0, none⟩) n cap) xs) (hj : j < xs.length)
    (h : ∀ w', OwnL k e w' base (.slice (some ⟨g, 0, none⟩) n cap) (xs.set j f) → w.grownBy w' (some g) → K (a.put d undef) w') : wpOp P ops Q i K a w := by
  subst hd
  subst hoff
  refine op_wp i hi hw ?_
  obtain ⟨h1, h2⟩ := own_setL f hown hj
  exact wp_store_mid e x y ho g (j * k.s) (k.cells f).toArray hx hy h1 (by rw [hsz, List.size_toArray, k.len]) (all_oneCell_toArray (k.one f)) (h _ h2 (grown_setCells _ _ _ _))
theorem wpList_append_lst0 (hw : Region.wanted o (yielded ops a.tmps) = true) (s x : Operand) (ts e : TypeId) (ho : o.op = .call { callee := .builtin .append, args := #[s, x], argTypes := #[ts, ts] }) (hu : P.underlying ts = some (.slice e)) (z : Value) (bytes : Nat) (hinfo : (P.info? e).map (fun i => (i.zero, i.size, i.bytes)) = some (some z, k.s, bytes)) (hz : z.cells.size = k.s)
    (base B m c : Nat) (A : Option Addr) (v : Value) (xs ys : List α) (hs : a.eval s = v) (hx : a.eval x = .slice A m c) (hown : OwnL k e w base v xs) (hq : Lst k w B A m ys) (hm : xs.length + m ≤ 1048576) (hby : bytes ≤ 1048576) (hbase : base ≤ w.heap.size)
    (h : ∀ v' w', OwnL k e w' base v' (xs ++ ys) → w.grownBy w' v.ownBlock → (v'.ownBlock = v.ownBlock ∨ v'.ownBlock = some w.heap.size) → wpList P ops Q rest (a.put o.dst v') w') : wpList P ops Q (o :: rest) a w := by
  obtain ⟨v', w', h1, h2, h3, h4⟩ := run_append_lst0 (P := P) w ts o.type e hu z bytes hinfo hz base B m c A v xs ys hown hq hm hby hbase
  refine wpList_step fun _ hK => ?_
  rw [if_pos hw]
  unfold Oper.wp execOp
  simp only [ho, resolve, invoke, builtin, Sem.run_bind, Sem.run_pure, Result.andThen_ok, List.map_toArray, List.map_cons, List.map_nil, hs, hx, h1]
  exact hK _ _ (h v' w' h2 h3 h4)
theorem wpList_build_lst1 (hgd : o.guard = none) (ts e : TypeId) (n : Nat) (parts : Array (Nat × Operand)) (ho : o.op = .buildSlice ts n parts) (hu : P.underlying ts = some (.slice e)) (z : Value) (bytes : Nat) (hinfo : (P.info? e).map (fun i => (i.zero, i.size, i.bytes)) = some (some z, k.s, bytes)) (h1 : k.s = 1)
    (xs : List α) (hn : xs.length = n) (hp : (parts.map fun (i, x) => (i, a.eval x)).toList = ((flat k xs).zipIdx 0).map fun x => (x.2, x.1)) (hc : ∀ v ∈ flat k xs, v.cells = #[v]) (h0 : 0 < n) (h24 : n ≤ 16777216)
    (h : ∀ w', Blk w' w.heap.size e (flat k xs).toArray → w.grownBy w' none → Hid (w'.heap.size = w.heap.size + 1) → wpList P ops Q rest (a.put o.dst (.slice (some ⟨w.heap.size, 0, none⟩) n n)) w') : wpList P ops Q (o :: rest) a w := by
  obtain ⟨ie, hie, hz0, hs, hb⟩ := info_parts hinfo
  have hl : (flat k xs).length = n := by rw [Sl.flat_length, hn, h1, Nat.mul_one]
  refine Go.wpList_buildSlice hgd ts e n parts ho (flat k xs).toArray ie z hu hie hz0 (by rw [hs, h1]; omega) (by rw [hs, h1]; omega) ?_ (h _ (heap_alloc_new w _) (World.grownBy_alloc w _ none) (Lib.hid (by simp)))
  rw [hp, hs, h1]
  exact Go.Great.fill_flat (flat k xs) _ hc (by simp [hl])
end
section
variable {P : Program} {S : World → Prop} {ρ : Operand → Value} {o : Oper}
theorem y_subI (a b : Int) {t ty : TypeId} {x y : Operand} {k : IntKind} {r : Int} (ho : o.op = .binOp .sub t x y ty) (hx : ρ x = .int k a) (hy : ρ y = .int k b) (hr : k.wrap (a - b) = r) : ∀ w, S w → (execOp ρ o).run P w = .ok (.value (.int k r)) w := Held.y_int ho hx hy (Held.run_sub t k hr)
theorem y_addI (a b : Int) {t ty : TypeId} {x y : Operand} {k : IntKind} {r : Int} (ho : o.op = .binOp .add t x y ty) (hx : ρ x = .int k a) (hy : ρ y = .int k b) (hr : k.wrap (a + b) = r) : ∀ w, S w → (execOp ρ o).run P w = .ok (.value (.int k r)) w := Held.y_int ho hx hy (Held.run_add t k hr)
theorem y_geqI (a b : Int) {t ty : TypeId} {x y : Operand} {k : IntKind} {r : Bool} (ho : o.op = .binOp .geq t x y ty) (hx : ρ x = .int k a) (hy : ρ y = .int k b) (hr : decide (b ≤ a) = r) : ∀ w, S w → (execOp ρ o).run P w = .ok (.value (.bool r)) w :=
  Held.y_bin ho hx hy (fun w => by simp [eqGuard]) (fun w => by subst hr; simp [binOp, Op.intCmp])
end
section
variable {α β : Type} {k : St α} {k' : St β} {w : World}
theorem own_apart {t t' : TypeId} {b b' : Nat} {v v' : Value} {xs : List α} {ys : List β} (h : OwnL k t w b v xs) (h' : OwnL k' t' w b' v' ys) (ht : t ≠ t') {g : Nat} (e : v.ownBlock = some g) : v'.ownBlock ≠ some g := fun e' => by
  rcases h.2 with ⟨rfl, _⟩ | ⟨g1, cap, cur, rfl, _, hg, _⟩
  · cases e
  · rcases h'.2 with ⟨rfl, _⟩ | ⟨g2, cap', cur', rfl, _, hg', _⟩
    · cases e'
    · have e : some g1 = some g := e
      have e' : some g2 = some g := e'
      injection e with e
      injection e' with e'
      subst e
      subst e'
      rw [hg] at hg'
      injection hg' with hg'
      injection hg' with _ hg'
      exact ht hg'
theorem own_apart' {t t' : TypeId} {b b' : Nat} {v v' : Value} {xs : List α} {ys : List β} (h : OwnL k t w b v xs) (h' : OwnL k' t' w b' v' ys) (ht : t ≠ t') : v.ownBlock = none ∨ v.ownBlock ≠ v'.ownBlock := by
  cases e : v.ownBlock with
  | none => exact .inl rfl
  | some g => exact .inr fun e2 => own_apart h h' ht e e2.symm
end
end Go.Proofs.Ytbippmbcgkicaaa.Sto
