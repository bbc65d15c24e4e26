/-
  Package chain's iterator over the carry and the records behind it, by its contract: it hands out each with its place.
  A region that draws its order and in the end stores into what it has loaded: what is loaded ahead of a store that waits for it may be taken first, as long as a condition holds till that store.
  The library's slices.Grow of no records and slices.Concat of two lists of records, by their contracts.
  The document's own ahead and Sort (dominoref14), by their contracts.
-/
import Derived.Test.YtkiempdpfmolfaaB8
import Derived.Test.YtkiempdpfmolfaaB4
import Derived.Test.YtkiempdpfmolfaaB6
import Derived.Test.YtkiempdpfmolfaaB2
import Derived.Test.YtkiempdpfmolfaaB1
import Derived.Test.YtkiempdpfmolfaaB5
set_option linter.unusedVariables false
namespace Go.Proofs.Ytkiempdpfmolfaa.Cn
open Go.RowKit Go.Shelf Go.Proofs.Ytkiempdpfmolfaa Mem Held Go.Proofs.Ytkiempdpfmolfaa.Range Rc Rs Sl Vm Mg
attribute [local go_sem] Oper.semAt_some
attribute [local irreducible] wpList wpListIn Calls
def num : Nat → List R → List (Nat × R)
  | _, [] => []
  | i, r :: l => (i, r) :: num (i + 1) l
theorem num_append : ∀ (i : Nat) (l m : List R), num i (l ++ m) = num i l ++ num (i + l.length) m
  | i, [], m => rfl
  | i, r :: l, m => by
    rw [List.cons_append, num, num, num_append, List.cons_append, List.length_cons, show i + 1 + l.length = i + (l.length + 1) by omega]
theorem num_snoc {rs : List R} {i : Nat} (h : i < rs.length) : num 1 (rs.take (i + 1)) = num 1 (rs.take i) ++ [(i + 1, rs.getD i R0)] := by
  rw [List.take_add_one, List.getElem?_eq_getElem h, List.getD_eq_getElem?_getD, List.getElem?_eq_getElem h, num_append, List.length_take, Nat.min_eq_left (Nat.le_of_lt h), Nat.add_comm 1 i]
  rfl
theorem num_prefix {rs : List R} (i : Nat) : num 1 (rs.take i) <+: num 1 rs := by
  have h := num_append 1 (rs.take i) (rs.drop i)
  rw [List.take_append_drop] at h
  rw [h]
  exact List.prefix_append _ _
def EncN (x : Nat × R) (B0 : Nat) (W : World) (args : Array Value) : Prop := args = #[.int .i64 (x.1 : Int), .agg #[.bool x.2.d, .int .i64 x.2.k, .int .i64 x.2.v, .int .i64 x.2.s]]
set_option maxRecDepth 100000 in
set_option maxHeartbeats 2000000 in
theorem behind_any (co : R) (A : Option Addr) (n c : Nat) (w : World) :
    Calls Try.prog 20 #[.agg #[.bool co.d, .int .i64 co.k, .int .i64 co.v, .int .i64 co.s], .slice A n c] w fun e w' => ∃ bi bl : Nat, e = .returned (.func (.func 34) #[] #[.pointer (some ⟨bi, 0, none⟩), .pointer (some ⟨bl, 0, none⟩)]) ∧ Blk w' bi 26 #[.bool co.d, .int .i64 co.k, .int .i64 co.v, .int .i64 co.s] ∧ Blk w' bl 27 #[.slice A n c] ∧ w.heap.size ≤ bi ∧ w.heap.size ≤ bl ∧ Below w.heap.size w w' := by
  go_enter Try.func20, Try.ntmps20
  go_wp2_with (first
    | (refine wpList_box_blk (w := w) rfl 26 _ rfl #[.bool co.d, .int .i64 co.k, .int .i64 co.v, .int .i64 co.s] rfl ?_; intro u1 q1 g1 z1)
    | (refine Held.wpList_box_cell (w := u1) rfl 27 _ rfl (.slice A n c) rfl rfl ?_; intro u2 q2 g2 z2))
  go_ret
  exact ⟨_, _, rfl, q1.grown g2 (by simp), q2, Nat.le_refl _, g1.size, ((Below.refl _ w).grown g1 (Nat.le_refl _) (by simp)).grown g2 g1.size (by simp)⟩
set_option maxRecDepth 100000 in
set_option maxHeartbeats 8000000 in
theorem behind_give (N bi bl : Nat) (S : Nat → Prop) (B : Nat) (co : R) (A : Option Addr) (n c : Nat) (rs : List R) (w : World) (qi : Blk w bi 26 #[.bool co.d, .int .i64 co.k, .int .i64 co.v, .int .i64 co.s]) (ql : Blk w bl 27 #[.slice A n c]) (hbi : ¬ S bi) (hbl : ¬ S bl) (h : Lst kRec w B A n rs) (hBl : ∀ b, b < B → ¬ S b) (hlb : B ≤ w.heap.size) (hn : n ≤ 1048576) :
    SeqGive Fence.wide N Try.prog 34 #[.pointer (some ⟨bi, 0, none⟩), .pointer (some ⟨bl, 0, none⟩)] EncN (Only S) (num 0 (co :: rs)) w := by
  intro l J W hW hJ hY h0
  have qi := qi.after hW
  have ql := ql.after hW
  have h := h.below (hW.mono hlb)
  have hlb : B ≤ W.heap.size := Nat.le_trans hlb hW.size
  clear hW
  have HL := Lib.hid h.1
  have HXS := Lib.hid (show num 0 (co :: rs) = (0, co) :: num 1 rs from rfl)
  refine callsIn_of_wp Try.func34 rfl trivial ?_ rfl
  simp only [Try.ntmps34, List.size_toArray, List.length_cons, List.length_nil, Nat.reduceAdd, Nat.reduceSub, Array.replicate_succ, Array.replicate_zero, List.push_toArray, List.append_toArray, List.nil_append, List.cons_append]
  obtain ⟨fn, tmps, assign, body, hy, hR⟩ := hY [] (0, co) #[.int .i64 0, .agg #[.bool co.d, .int .i64 co.k, .int .i64 co.v, .int .i64 co.s]] W W h0 (World.grownBy.refl _ _) rfl (by rw [HXS.out]; exact ⟨num 1 rs, rfl⟩)
  gi_wp2_with (refine Held.wpListIn_one (r := none) rfl (by intro c e; cases e) ?_; refine wpList_load_blk (w := W) rfl 26 _ rfl bi 4 rfl 26 _ qi _ Try.underlying26 rfl info_rec rfl ?_; refine wpList_nil ⟨rfl, ?_⟩)
  refine ⟨fun h => (by cases h), ?_⟩
  refine hR.mono ?_
  rintro e W1 ⟨rfl, J1, o1⟩
  have h1 := Vm.Lst.only h o1 hBl
  have ql1 : Blk W1 bl 27 #[.slice A n c] := o1.block bl _ hbl ql rfl
  have hlb1 := Nat.le_trans hlb o1.size
  have kbl := ql1.cell (i := 0) rfl
  clear hR hy h qi ql h0 hlb o1
  gi_wp2_with fail
  clear kbl
  gi_loopw [12] (fun i wr => ∃ j : Nat, j ≤ n ∧ i = .int .i64 j ∧ J ((0, co) :: num 1 (rs.take j)) wr ∧ Only S W1 wr) (fun i _ => n - (intOf i).toNat)
  case atStart => exact ⟨0, by omega, rfl, J1, Only.refl _ _⟩
  case round =>
    obtain ⟨i, hi, rfl, Ji, ok⟩ := hrel
    by_cases hlt : i < n
    · have kp := Vm.Lst.only h1 ok hBl
      obtain ⟨b, off, rfl, hb, hx⟩ := kp.at_ hlt
      have hbw : b < wr.heap.size := Nat.lt_of_lt_of_le hb (Nat.le_trans hlb1 ok.size)
      have hx : wr.rangeAt b (off + i * 4) (rs.getD i R0).cells := hx
      have HNX := Lib.hid (show ((0, co) :: num 1 (rs.take i)) ++ [(i + 1, rs.getD i R0)] = (0, co) :: num 1 (rs.take (i + 1)) by rw [num_snoc (by rw [HL.out]; exact hlt), List.cons_append])
      have HPX := Lib.hid (show (((0, co) :: num 1 (rs.take i)) ++ [(i + 1, rs.getD i R0)]) <+: num 0 (co :: rs) by
        rw [HNX.out, HXS.out]
        exact (List.prefix_cons_inj _).2 (num_prefix _))
      generalize rs.getD i R0 = x at hx HNX HPX
      obtain ⟨xd, xk, xv, xs⟩ := x
      have hx : wr.rangeAt b (off + i * 4) [.bool xd, .int .i64 xk, .int .i64 xv, .int .i64 xs] := hx
      have hlt' : (i : Int) < (n : Int) := by omega
      have hi0 : (0 : Int) ≤ (i : Int) := by omega
      have hadd : IntKind.i64.wrap ((i : Int) + 1) = (i : Int) + 1 := by rw [IntKind.wrap_i64]; omega
      clear kp
      gi_wp2_with (first
        | (refine Held.wpListIn_one (r := none) rfl (by intro c e; cases e) ?_; refine wpList_run (w := wr) rfl (v := .pointer (some ⟨b, off + i * 4, none⟩)) (Held.y_addr (S := fun _ => True) rfl rfl rfl (run_addr_of (P := Try.prog) 27 26 b off n c i 4 .i64 Try.underlying27 info_rec hlt) _ trivial) ?_; refine wpList_nil ⟨rfl, ?_⟩)
        | (refine Held.wpListIn_one (r := none) rfl (by intro c e; cases e) ?_; refine wpList_run (w := wr) rfl (v := .agg #[.bool xd, .int .i64 xk, .int .i64 xv, .int .i64 xs]) (y_load_range (S := fun W => W = wr) (n := 4) (cs := [.bool xd, .int .i64 xk, .int .i64 xv, .int .i64 xs]) rfl rfl Try.underlying26 rfl info_rec rfl (fun W hW => by rw [hW]; exact hx) _ rfl) ?_; refine wpList_nil ⟨rfl, ?_⟩)
        | (refine Held.wpListIn_one (r := none) rfl (by intro c e; cases e) ?_; refine wpList_alloc_blk (w := wr) rfl 26 rfl _ zero_rec ?_; intro w2 q2 g2 z2; refine wpList_nil ⟨rfl, ?_⟩)
        | (refine Held.wpListIn_one (r := none) rfl (by intro c e; cases e) ?_; refine wpList_store_blk (w := w2) rfl 26 _ _ rfl wr.heap.size 4 rfl 26 _ #[.bool xd, .int .i64 xk, .int .i64 xv, .int .i64 xs] rfl q2 info_rec rfl rfl (by kernel_rfl) ?_; intro w3 q3 g3 z3; refine wpList_nil ⟨rfl, ?_⟩; have b3 : Below wr.heap.size wr w3 := ((Below.refl _ wr).grown g2 (Nat.le_refl _) (by simp)).grown g3 g2.size (fun r e => by cases e; exact Nat.le_refl _); clear g2 g3 z2 z3 q2)
        | (refine Held.wpListIn_one (r := none) rfl (by intro c e; cases e) ?_; refine wpList_load_blk (w := w3) rfl 26 _ rfl wr.heap.size 4 rfl 26 _ q3 _ Try.underlying26 rfl info_rec rfl ?_; refine wpList_nil ⟨rfl, ?_⟩; obtain ⟨fn, tmps, assign, body, hy, hR⟩ := hY _ (i + 1, ⟨xd, xk, xv, xs⟩) #[.int .i64 ((i : Int) + 1), .agg #[.bool xd, .int .i64 xk, .int .i64 xv, .int .i64 xs]] wr w3 Ji (grown_of_below b3 none) (by unfold EncN; rw [Int.natCast_add]; rfl) HPX.out))
      refine ⟨fun h => (by cases h), ?_⟩
      refine hR.mono ?_
      rintro e W4 ⟨rfl, J4, o4⟩
      rw [HNX.out] at J4
      have o5 := (ok.trans (Only.of_below b3)).trans o4
      clear hR hy o4 b3 ok Ji q3 hx HPX
      gi_wp2_with fail
      go_roundw
      case rel => exact ⟨i + 1, by omega, by go_num, J4, o5⟩
      case measure => simp [intOf]; omega
    · have hin : i = n := by omega
      subst hin
      rw [List.take_of_length_le (by rw [HL.out]; exact Nat.le_refl _)] at Ji
      gi_wp2_with fail
      go_end0
      exact ⟨⟨_, rfl⟩, by rw [HXS.out]; exact Ji⟩
end Go.Proofs.Ytkiempdpfmolfaa.Cn
namespace Go.Proofs.Ytkiempdpfmolfaa.Held
open Go.RowKit
def wpAnyB (P : Program) (md : Region.Mode) (ops : Array Oper) (Q : Exit → Act → World → Prop) (T : World → Prop) (s : Nat) : Nat → Array Bool → Act → World → Prop
  | 0, listed, a, w => Region.ready md ops listed = [] ∧ Q .normal a w
  | fuel + 1, listed, a, w =>
    (Region.ready md ops listed = [] → Q .normal a w) ∧
    ∀ i ∈ Region.ready md ops listed, wpOp P ops Q i (fun a' w' => ((listed.setIfInBounds i true).getD s true = false → T w') ∧ wpAnyB P md ops Q T s fuel (listed.setIfInBounds i true) a' w') a w
section
variable {P : Program} {ops : Array Oper} {Q : Exit → Act → World → Prop} {md : Region.Mode} {T : World → Prop} {s : Nat}
theorem wpAny_of_bar : ∀ (fuel : Nat) (listed : Array Bool) (a : Act) (w : World), wpAnyB P md ops Q T s fuel listed a w → wpAny P md ops Q fuel listed a w
  | 0, _, _, _, h => h
  | fuel + 1, _, _, _, h => ⟨h.1, fun i hi => wpOp_mono (fun a' w' h' => wpAny_of_bar fuel _ a' w' h'.2) (h.2 i hi)⟩
theorem not_yet {listed : Array Bool} {j : Nat} {oj : Oper} (hj : j ∈ Region.ready md ops listed) (ho : ops[j]? = some oj) {e : Edge} (he : e ∈ oj.after) (hb : Region.binds md e = true) : listed.getD e.on true ≠ false := fun hx => by
  obtain ⟨_, o, h1, h2⟩ := mem_ready.1 hj
  obtain rfl : o = oj := by rw [h1] at ho; exact Option.some.inj ho
  have := h2 e he hb
  by_cases c : e.on < listed.size
  · simp [c] at hx this; exact absurd (this.symm.trans hx) (by simp)
  · simp [Array.getElem?_eq_none (Nat.le_of_not_lt c)] at this
structure Early (md : Region.Mode) (ops : Array Oper) (B : List Nat) (i : Nat) (oi : Oper) (listed : Array Bool) : Prop where
  ready : i ∈ Region.ready md ops listed
  free : ∀ j oj, ops[j]? = some oj → j ≠ i → listed.getD j true = false → (∀ e ∈ oj.after, Region.binds md e = true → e.on ≠ i) → oi.apart ops oj = true
  late : ∀ b ∈ B, listed.getD b true = false
def Waits (md : Region.Mode) (ops : Array Oper) (B : List Nat) (i : Nat) : Prop := i ∉ B ∧ ∀ b ∈ B, ∀ o, ops[b]? = some o → ∃ e ∈ o.after, Region.binds md e = true ∧ (e.on = i ∨ e.on ∈ B)
section
variable {B : List Nat} {i : Nat} {oi : Oper} {listed : Array Bool}
theorem Early.un (h : Early md ops B i oi listed) : listed.getD i true = false := (mem_ready.1 h.ready).1
theorem Early.waits (h : Early md ops B i oi listed) {j : Nat} {oj : Oper} (hj : j ∈ Region.ready md ops listed) (ho : ops[j]? = some oj) : ∀ e ∈ oj.after, Region.binds md e = true → e.on ≠ i :=
  fun e he hb heq => not_yet hj ho he hb (by rw [heq]; exact h.un)
theorem Early.out (h : Early md ops B i oi listed) (hw : Waits md ops B i) {j : Nat} (hj : j ∈ Region.ready md ops listed) : j ∉ B := fun hjB => by
  obtain ⟨_, oj, ho, _⟩ := mem_ready.1 hj
  obtain ⟨e, he, hb, hor⟩ := hw.2 j hjB oj ho
  rcases hor with h1 | h1
  · exact h.waits hj ho e he hb h1
  · exact not_yet hj ho he hb (h.late _ h1)
theorem Early.next (h : Early md ops B i oi listed) (hw : Waits md ops B i) {j : Nat} (hj : j ∈ Region.ready md ops listed) (hji : j ≠ i) : Early md ops B i oi (listed.setIfInBounds j true) where
  ready := ready_mono h.ready (Ne.symm hji)
  free k ok hk hki hun hno := h.free k ok hk hki (by
    by_cases e : j = k
    · exact e ▸ (mem_ready.1 hj).1
    · rwa [getD_set_ne true e] at hun) hno
  late b hb := by rw [getD_set_ne true (show ¬ j = b from fun e => h.out hw hj (by rw [e]; exact hb))]; exact h.late b hb
end
theorem wpAnyB_early {i : Nat} {oi : Oper} {v : Value} (hi : ops[i]? = some oi) (hsel : ∀ (j : Nat) (o : Oper) cs b, ops[j]? = some o → o.op ≠ .select cs b)
    (hQ : ∀ c a w, Q (.panic c) (a.put oi.dst v) w → Q (.panic c) a w) {B : List Nat} (hs : s ∈ B) (hw : Waits md ops B i) :
    ∀ (fuel : Nat) {listed : Array Bool} {a : Act} {w : World}, Early md ops B i oi listed → YieldsIf P ops T oi v a → T w →
      wpAnyB P md ops Q T s fuel (listed.setIfInBounds i true) (a.put oi.dst v) w → wpAnyB P md ops Q T s (fuel + 1) listed a w
  | fuel, listed, a, w, h, hy, hT, H => by
    refine ⟨fun h0 => absurd (h0 ▸ h.ready) (by simp), fun j hj => ?_⟩
    by_cases hji : j = i
    · exact hji ▸ hy.wpOp hi hT ⟨fun _ => hT, H⟩
    · match fuel, H with
      | 0, H => exact absurd (H.1 ▸ ready_mono hj hji) (by simp)
      | fuel + 1, H =>
        obtain ⟨hun, oj, ho, _⟩ := mem_ready.1 hj
        have step := wpOp_putIf ho (h.free j oj ho hji hun (h.waits hj ho)) (fun cs b => hsel i oi cs b hi) (fun cs b => hsel j oj cs b ho) hQ hy (H.2 j (ready_mono hj hji))
        have n := h.next hw hj hji
        refine wpOp_mono (fun a' w' k => ?_) step
        obtain ⟨k1, k2, k3⟩ := k
        rw [Array.setIfInBounds_comm _ _ (Ne.symm hji)] at k2 k3
        have hT' : T w' := k2 (by rw [getD_set_ne true (show ¬ i = s from fun e => hw.1 (by rw [e]; exact hs))]; exact n.late s hs)
        exact ⟨fun _ => hT', wpAnyB_early hi hsel hQ hs hw fuel n k1 hT' k3⟩
def waitsB (md : Region.Mode) (ops : Array Oper) (listed : Array Bool) (B : List Nat) (s i : Nat) : Bool :=
  B.contains s && !B.contains i && B.all fun b => !listed.getD b true && match ops[b]? with
    | some o => o.after.any fun e => Region.binds md e && (e.on == i || B.contains e.on)
    | none => false
theorem takeB (i : Nat) (d : Option Tmp) (B : List Nat) {oi : Oper} {v : Value} {fuel : Nat} {listed : Array Bool} {a : Act} {w : World} (hi : ops[i]? = some oi) (hd : oi.dst = d)
    (hs : Region.noSelect ops = true) (hf : Region.free md ops listed i = true) (hr : (Region.ready md ops listed).contains i = true) (hB : waitsB md ops listed B s i = true)
    (hQ : ∀ c a w, Q (.panic c) (a.put d v) w → Q (.panic c) a w) (hw : Region.wanted oi (yielded ops a.tmps) = true) (hy : ∀ w, T w → (execOp a.eval oi).run P w = .ok (.value v) w) (hT : T w)
    (h : wpAnyB P md ops Q T s fuel (listed.setIfInBounds i true) (a.put d v) w) : wpAnyB P md ops Q T s (fuel + 1) listed a w := by
  subst hd
  unfold waitsB at hB
  simp only [Bool.and_eq_true, List.contains_iff_mem, Bool.not_eq_true', List.all_eq_true] at hB
  obtain ⟨⟨h1, h2⟩, h3⟩ := hB
  have h2' : i ∉ B := fun hm => by rw [List.contains_iff_mem.2 hm] at h2; cases h2
  refine wpAnyB_early hi (Region.noSelect_spec hs) hQ h1 ⟨h2', fun b hb o ho => ?_⟩ fuel ⟨by simpa using hr, Region.free_spec hi hf, fun b hb => (h3 b hb).1⟩ (.inl ⟨hw, hy⟩) hT h
  have := (h3 b hb).2
  rw [ho] at this
  obtain ⟨k, hk, he⟩ := Array.any_eq_true.1 this
  simp only [Bool.and_eq_true, Bool.or_eq_true, beq_iff_eq, List.contains_iff_mem] at he
  exact ⟨o.after[k], Array.getElem_mem hk, he.1, he.2⟩
theorem oneB (i : Nat) {fuel : Nat} {listed : Array Bool} {a : Act} {w : World} (hr : Region.ready md ops listed = [i])
    (h : wpOp P ops Q i (fun a' w' => ((listed.setIfInBounds i true).getD s true = false → T w') ∧ wpAnyB P md ops Q T s fuel (listed.setIfInBounds i true) a' w') a w) : wpAnyB P md ops Q T s (fuel + 1) listed a w :=
  ⟨fun h0 => absurd (hr ▸ h0) (by simp), fun j hj => by rw [hr] at hj; obtain rfl := List.mem_singleton.1 hj; exact h⟩
theorem doneB {listed : Array Bool} {a : Act} {w : World} (hr : Region.ready md ops listed = []) (h : Q .normal a w) : ∀ fuel, wpAnyB P md ops Q T s fuel listed a w
  | 0 => ⟨hr, h⟩
  | _ + 1 => ⟨fun _ => h, by rw [hr]; simp⟩
theorem wp_region_bar {id : Nat} {a : Act} {w : World} (hm : P.follows .mixedOrders = true)
    (h : wpAnyB P .any ops Q T s ops.size (Array.replicate ops.size false) a { w with drawn := w.drawn + 1 }) : (Code.region id ops true).wp P Q a w :=
  wp_region_any hm (wpAny_of_bar _ _ _ _ h)
theorem wpIn_region_barR {n : Nat} {r : Option Nat} {F : Fence} (hF : F = wideR r) {id : Nat} {a : Act} {w : World} (hm : P.follows .mixedOrders = true) (hd : noDefer ops = true) (hq : ∀ a w, ¬ Q .outgrown a w)
    (h : wpAnyB P .any ops Q T s ops.size (Array.replicate ops.size false) a { w with drawn := w.drawn + 1 }) : (Code.region id ops true).wpIn F n P Q a w := by
  subst hF
  exact wpIn_region_any hm (anyIn_of_any hd hq _ _ _ _ (wpAny_of_bar _ _ _ _ h))
end
end Go.Proofs.Ytkiempdpfmolfaa.Held
namespace Go.Proofs.Ytkiempdpfmolfaa.Mg
open Go.RowKit Go.Shelf Go.Proofs.Ytkiempdpfmolfaa Mem Held Ct Rc Rs Sl
attribute [local irreducible] wpList wpListIn Calls
theorem run_front_nil {P : Program} {t e : TypeId} (sz : Nat) (ht : P.underlying t = some (.slice e)) (hs : (P.info? e).map (·.size) = some sz) (w : World) : (Instr.sliceAt t (.slice none 0 0) none (some (.int .i64 0)) none).run P w = .ok (.slice none 0 0) w := by
  have he : P.elem t = e := by simp [Program.elem, ht]
  have ht' : P.underlying t = some (.slice (P.elem t)) := by rw [he]; exact ht
  obtain ⟨inf, hi, h1⟩ := Option.map_eq_some_iff.1 hs
  have hz : (sizeOf e).run P w = .ok sz w := by simp [sizeOf, typeInfo, hi, h1]
  rw [run_sliceAt_slice w t _ _ _ _ ht', run_slice_h w t _ 0 0 ht' .i64 0 (by omega) (by omega), he, hz]
  rfl
theorem run_back_nil {P : Program} {t e : TypeId} (sz : Nat) (ht : P.underlying t = some (.slice e)) (hs : (P.info? e).map (·.size) = some sz) (A : Option Addr) (n cap : Nat) : ∃ A' c', ∀ w : World, (Instr.sliceAt t (.slice A n cap) (some (.int .i64 (n : Int))) none none).run P w = .ok (.slice A' 0 c') w := by
  have he : P.elem t = e := by simp [Program.elem, ht]
  have ht' : P.underlying t = some (.slice (P.elem t)) := by rw [he]; exact ht
  obtain ⟨inf, hi, h1⟩ := Option.map_eq_some_iff.1 hs
  refine ⟨if cap = n then A else A.map (·.add (n * sz)), cap - n, fun w => ?_⟩
  have hz : (sizeOf e).run P w = .ok sz w := by simp [sizeOf, typeInfo, hi, h1]
  rw [run_sliceAt_slice w t _ _ _ _ ht', run_slice_l w t _ n cap ht' .i64 _ (by omega) (by omega), he, hz]
  simp only [Result.andThen, sliced, Int.toNat_natCast, Nat.sub_self]
theorem own_parts {w : World} {base n c h : Nat} {A : Option Addr} {rs : List R} (ho : OwnL kRec 26 w base (.slice A n c) rs) (hw : ∀ r ∈ rs, r.wf) (hh : h ≤ n) :
    ∃ A1 A2 c2, (∀ W : World, (Instr.sliceAt 27 (.slice A n c) none (some (.int .i64 (h : Int))) none).run Try.prog W = .ok (.slice A1 h c) W) ∧ (∀ W : World, (Instr.sliceAt 27 (.slice A n c) (some (.int .i64 (h : Int))) none none).run Try.prog W = .ok (.slice A2 (n - h) c2) W) ∧
      Lst kRec w w.heap.size A1 h (rs.take h) ∧ Lst kRec w w.heap.size A2 (n - h) (rs.drop h) := by
  have hl := OwnL.lst ho hw
  have hL := hl.1
  rcases Nat.eq_zero_or_pos n with h0 | h0
  · obtain rfl : h = 0 := by omega
    obtain ⟨A', c', e, hc, _⟩ := OwnL.form ho
    injection e with e1 e2 e3
    subst h0
    obtain rfl : rs = [] := List.eq_nil_of_length_eq_zero hL
    rcases ho.2 with ⟨e, _⟩ | ⟨g, cap, cur, e, _⟩
    · injection e with e1 e2 e3
      subst e1
      subst e3
      obtain ⟨A2, c2, hb⟩ := run_back_nil (P := Try.prog) 4 Try.underlying27 (by kernel_rfl) none 0 0
      exact ⟨none, A2, c2, fun W => run_front_nil (P := Try.prog) 4 Try.underlying27 (by kernel_rfl) W, hb, Lst.nil _ _ _ _, Lst.nil _ _ _ _⟩
    · injection e with e1 e2 e3
      subst e1
      obtain ⟨A2, c2, hb⟩ := run_back_nil (P := Try.prog) 4 Try.underlying27 (by kernel_rfl) (some ⟨g, 0, none⟩) 0 c
      exact ⟨_, A2, c2, fun W => run_front_s (P := Try.prog) 4 Try.underlying27 (by kernel_rfl) g 0 0 c (h := 0) (by omega) W, hb, Lst.nil _ _ _ _, Lst.nil _ _ _ _⟩
  · obtain ⟨b, off, rfl, hb, hr⟩ := hl.2.2 h0
    obtain ⟨A', c', e, hc, _⟩ := OwnL.form ho
    injection e with e1 e2 e3
    have hnc : n ≤ c := by rw [← hL, e3]; exact hc
    have hd : Lst kRec w w.heap.size (some ⟨b, off + h * 4, none⟩) (n - h) (rs.drop h) := by
      refine ⟨by rw [List.length_drop, hL], fun x hx => hl.2.1 x (List.mem_of_mem_drop hx), fun _ => ⟨b, off + h * 4, rfl, hb, fun j v hv => ?_⟩⟩
      have hf : Sl.flat kRec (rs.drop h) = (Sl.flat kRec rs).drop (h * 4) := (flat_drop (k := kRec) rs h (by omega)).symm
      rw [hf, List.getElem?_drop] at hv
      have := hr (h * 4 + j) v hv
      rwa [← Nat.add_assoc] at this
    by_cases hhn : h < c
    · exact ⟨_, _, _, fun W => run_front_s (P := Try.prog) 4 Try.underlying27 (by kernel_rfl) b off n c (h := h) (by omega) W, fun W => run_back_s (P := Try.prog) 4 Try.underlying27 (by kernel_rfl) b off n c (l := h) hh hhn W, lst_take hl h hh, hd⟩
    · obtain rfl : h = n := by omega
      obtain ⟨A2, c2, hb2⟩ := run_back_nil (P := Try.prog) 4 Try.underlying27 (by kernel_rfl) (some ⟨b, off, none⟩) h c
      refine ⟨_, A2, c2, fun W => run_front_s (P := Try.prog) 4 Try.underlying27 (by kernel_rfl) b off h c (h := h) (by omega) W, fun W => by rw [Nat.sub_self]; exact hb2 W, lst_take hl h hh, ?_⟩
      rw [Nat.sub_self, List.drop_of_length_le (by omega)]
      exact Lst.nil _ _ _ _
end Go.Proofs.Ytkiempdpfmolfaa.Mg
namespace Go.Proofs.Ytkiempdpfmolfaa.Mg
open Go.RowKit Go.Shelf Go.Proofs.Ytkiempdpfmolfaa Mem Held Ct Rc Rs Sl
attribute [local irreducible] wpList wpListIn Calls
section
variable {α : Type} {k : St α} {P : Program} {ops : Array Oper} {o : Oper} {a : Act} {w : World} {Q : Exit → Act → World → Prop}
theorem run_append_all (w : World) (ts ty e : TypeId) (hu : P.underlying ts = some (.slice e)) (z : Value) (bytes : Nat) (hinfo : (P.info? e).map (fun i => (i.zero, i.size, i.bytes)) = some (some z, k.s, bytes)) (hz : z.cells.size = k.s)
    (base B m c : Nat) (A : Option Addr) (v : Value) (xs ys : List α) (hown : OwnL k e w base v xs) (hq : Lst k w B A m ys) (hm : xs.length + m ≤ 1048576) (hby : bytes ≤ 1048576) (hbase : base ≤ w.heap.size) :
    ∃ v' w', (Builtin.append_ #[ts, ts] ty #[v, .slice A m c]).run P w = .ok v' w' ∧ OwnL k e w' base v' (xs ++ ys) ∧ w.grownBy w' v.ownBlock ∧ (v'.ownBlock = v.ownBlock ∨ v'.ownBlock = some w.heap.size) := by
  obtain ⟨ie, hie, hz0, hsz, hb⟩ := info_parts hinfo
  rcases Nat.eq_zero_or_pos m with h0 | h0
  · subst h0
    have e0 : ys = [] := List.eq_nil_of_length_eq_zero hq.1
    subst e0
    obtain ⟨A', c', rfl, hle, _⟩ := OwnL.form hown
    exact ⟨_, w, run_append_zero ts e hu ie hie w A' A _ c' c hle, by rw [List.append_nil]; exact hown, World.grownBy.refl w _, .inl rfl⟩
  · obtain ⟨g, off, rfl, _, hc⟩ := hq.2.2 h0
    obtain ⟨v', w', h1, h2, h3, _, h5⟩ := run_append_own_at (P := P) w base ts ty e ie z k.s bytes hu hie hz0 hsz hb hz k.pos v xs.length (flat k xs) hown ⟨g, off, none⟩ m c (flat k ys) (by rw [Sl.flat_length, hq.1])
      (fun j u hj => by rw [show (Addr.mk g off none).add j = ⟨g, off + j, none⟩ by (unfold Addr.add; split <;> simp_all)]; exact hc j u hj) (flat_cell ys) (by unfold maxLen; omega) (Nat.le_trans (Nat.mul_le_mul hm hby) (by omega)) hbase
    refine ⟨v', w', h1, ?_, h3, h5⟩
    unfold OwnL
    rw [Sl.flat_append, List.length_append, hq.1]
    exact h2
theorem op_append_all (i : Nat) (d : Option Tmp) {K : Act → World → Prop} {s x : Operand} (ts e : TypeId) (hi : ops[i]? = some o) (hd : o.dst = d) (hw : Region.wanted o (yielded ops a.tmps) = true)
    (ho : o.op = .call { callee := .builtin .append, args := #[s, x], argTypes := #[ts, ts] }) (hu : P.underlying ts = some (.slice e)) (z : Value) (bytes : Nat) (hinfo : (P.info? e).map (fun i => (i.zero, i.size, i.bytes)) = some (some z, k.s, bytes)) (hz : z.cells.size = k.s)
    (base B m c : Nat) (A : Option Addr) (v : Value) (xs ys : List α) (hs : a.eval s = v) (hx : a.eval x = .slice A m c) (hown : OwnL k e w base v xs) (hq : Lst k w B A m ys) (hm : xs.length + m ≤ 1048576) (hby : bytes ≤ 1048576) (hbase : base ≤ w.heap.size)
    (h : ∀ v' w', OwnL k e w' base v' (xs ++ ys) → w.grownBy w' v.ownBlock → (v'.ownBlock = v.ownBlock ∨ v'.ownBlock = some w.heap.size) → K (a.put d v') w') : wpOp P ops Q i K a w := by
  subst hd
  obtain ⟨v', w', h1, h2, h3, h4⟩ := run_append_all (P := P) w ts o.type e hu z bytes hinfo hz base B m c A v xs ys hown hq hm hby hbase
  refine op_wp i hi hw ?_
  exact Lib.wp_append_run w s x ts ts ho _ _ hs hx _ w' h1 (h v' w' h2 h3 h4)
end
set_option maxRecDepth 100000 in
set_option maxHeartbeats 4000000 in
theorem rlead_any (seq : Bool) (a b : R) (w : World) :
    Calls Try.prog 32 #[.agg #[.bool a.d, .int .i64 a.k, .int .i64 a.v, .int .i64 a.s], .agg #[.bool b.d, .int .i64 b.k, .int .i64 b.v, .int .i64 b.s], .bool seq] w fun e w' => e = .returned (.bool (lead seq a b)) ∧ Below w.heap.size w w' := by
  go_enter Try.func32, Try.ntmps32
  cases seq with
  | true =>
    have HE := Lib.hid (show lead true a b = bef a.d a.k a.s b.d b.k b.s from rfl)
    go_wp2_with (first
      | (refine wpList_box_blk (w := w) rfl 26 _ rfl _ rfl ?_; intro w1 q1 g1 z1)
      | (refine wpList_box_blk (w := w1) rfl 26 _ rfl _ rfl ?_; intro w2 q2 g2 z2; have q1 := q1.grown g2 (by simp))
      | (refine wpList_load_blk (w := w2) rfl 26 _ rfl w.heap.size 4 rfl 26 _ q1 _ Try.underlying26 rfl (by kernel_rfl) rfl ?_)
      | (refine wpList_load_blk (w := w2) rfl 26 _ rfl w1.heap.size 4 rfl 26 _ q2 _ Try.underlying26 rfl (by kernel_rfl) rfl ?_))
    have b2 : Below w.heap.size w w2 := ((Below.refl _ w).grown g1 (Nat.le_refl _) (by simp)).grown g2 g1.size (by simp)
    refine (rbefore_any a.d a.k a.v a.s b.d b.k b.v b.s _).mono ?_
    rintro e w3 ⟨rfl, b3⟩
    have b3 := b2.trans (b3.mono b2.size)
    cases hb : bef a.d a.k a.s b.d b.k b.s
    all_goals
      rw [hb] at HE
      go_wp2_with fail
      go_ret
      exact ⟨Mem.ret_bool HE.out.symm, b3⟩
  | false =>
    have HE := Lib.hid (show lead false a b = ahd a.d a.k b.d b.k from rfl)
    go_wp2_with (first
      | (refine wpList_box_blk (w := w) rfl 26 _ rfl _ rfl ?_; intro w1 q1 g1 z1)
      | (refine wpList_box_blk (w := w1) rfl 26 _ rfl _ rfl ?_; intro w2 q2 g2 z2; have q1 := q1.grown g2 (by simp))
      | (refine wpList_load_blk (w := w2) rfl 26 _ rfl w.heap.size 4 rfl 26 _ q1 _ Try.underlying26 rfl (by kernel_rfl) rfl ?_)
      | (refine wpList_load_blk (w := w2) rfl 26 _ rfl w1.heap.size 4 rfl 26 _ q2 _ Try.underlying26 rfl (by kernel_rfl) rfl ?_))
    have b2 : Below w.heap.size w w2 := ((Below.refl _ w).grown g1 (Nat.le_refl _) (by simp)).grown g2 g1.size (by simp)
    refine (rahead_any a.d a.k a.v a.s b.d b.k b.v b.s _).mono ?_
    rintro e w3 ⟨rfl, b3⟩
    have b3 := b2.trans (b3.mono b2.size)
    cases hb : ahd a.d a.k b.d b.k
    all_goals
      rw [hb] at HE
      go_wp2_with fail
      go_ret
      exact ⟨Mem.ret_bool HE.out.symm, b3⟩
theorem own0 {α : Type} {k : St α} {t : TypeId} {w : World} {base n c : Nat} {A : Option Addr} {xs : List α} (h : OwnL k t w base (.slice A n c) xs) (h0 : 0 < n) : ∃ g, A = some ⟨g, 0, none⟩ ∧ base ≤ g ∧ g < w.heap.size ∧ ∃ cur, w.heap[g]? = some (.cells cur t (0, 0)) := by
  rcases h.2 with ⟨e, hn⟩ | ⟨g, cap, cur, e, hb, hg, _⟩
  · injection e with e1 e2 e3
    omega
  · injection e with e1 e2 e3
    exact ⟨g, e1, hb, (Array.getElem?_eq_some_iff.1 hg).1, cur, hg⟩
theorem take_snoc {rs : List R} {i : Nat} (h : i < rs.length) : rs.take (i + 1) = rs.take i ++ [rs.getD i R0] := by
  rw [List.take_add_one, List.getElem?_eq_getElem h, List.getD_eq_getElem?_getD, List.getElem?_eq_getElem h]
  rfl
set_option maxRecDepth 100000 in
set_option maxHeartbeats 8000000 in
theorem rsort_any (B : Nat) (A : Option Addr) (n c : Nat) (rs : List R) (seq : Bool) (w : World) (h : Lst kRec w B A n rs) (hB : B ≤ w.heap.size) (hn : n ≤ 524288) :
    Calls Try.prog 16 #[.slice A n c, .bool seq] w fun e w' => ∃ v, e = .returned v ∧ OwnL kRec 26 w' w.heap.size v (sortR seq rs) ∧ Below w.heap.size w w' := by
  have HL := Lib.hid h.1
  have HFL := Lib.hid (fun i => foldR_length seq (rs.take i) [])
  have HFI := Lib.hid (fun i (hi : i < rs.length) => show (rs.take (i + 1)).foldl (insR seq) [] = insR seq ((rs.take i).foldl (insR seq) []) (rs.getD i R0) by rw [take_snoc hi, List.foldl_append]; rfl)
  have HFW := Lib.hid (fun i (y : R) (hy : y ∈ (rs.take i).foldl (insR seq) []) => show y.wf from h.2.1 y (List.mem_of_mem_take (((sortR_perm seq (rs.take i)).mem_iff).1 hy)))
  go_enter Try.func16, Try.ntmps16
  go_wp2_with fail
  go_loopw [5, 6] (fun u iv wr => ∃ i : Nat, i ≤ n ∧ iv = .int .i64 i ∧ OwnL kRec 26 wr w.heap.size u ((rs.take i).foldl (insR seq) []) ∧ Below w.heap.size w wr) (fun _ i _ => n - (intOf i).toNat)
  case atStart => exact ⟨0, by omega, rfl, OwnL.nil _ _ _ _, Below.refl _ _⟩
  case round =>
    obtain ⟨i, hi, rfl, ho, hst⟩ := hrel
    by_cases hlt : i < n
    · have hlt' : (i : Int) < (n : Int) := by omega
      have hr := Lst.below h (hst.mono hB)
      obtain ⟨b, off, rfl, hb, hx⟩ := hr.at_ hlt
      have hx : wr.rangeAt b (off + i * 4) (rs.getD i R0).cells := hx
      have hbw : b < wr.heap.size := Nat.lt_of_lt_of_le hb (Nat.le_trans hB hst.size)
      obtain ⟨Ao, m, cm, rfl, hm, _, _⟩ := OwnL.form2 ho
      have hmi : m = i := by
        have h1 := hm.out
        have h2 := HFL.out i
        rw [h1, List.length_take, HL.out] at h2
        simp at h2
        omega
      have wx := h.2.1 _ (getD_mem (rs := rs) (i := i) (by have := HL.out; omega))
      have HNX := Lib.hid (HFI.out i (by have := HL.out; omega))
      have HOW := Lib.hid (HFW.out i)
      generalize (rs.take i).foldl (insR seq) [] = out at ho hm HNX HOW
      generalize rs.getD i R0 = x at hx wx HNX
      have hm5 : m ≤ 524288 := by omega
      clear hr hm hmi
      have HM := Lib.hid ((OwnL.lst ho HOW.out).1)
      go_wp2_with fail
      generalize wr = wo at *
      go_loopw [7] (fun kv wr => ∃ k : Nat, k ≤ m ∧ kv = .int .i64 k ∧ Hid (spotR seq x out m = spotR seq x out k) ∧ Below wo.heap.size wo wr) (fun k _ => (intOf k).toNat)
      case atStart => exact ⟨m, by omega, rfl, Lib.hid rfl, Below.refl _ _⟩
      case round =>
        obtain ⟨k, hk, rfl, hsp, hs2⟩ := hrel
        have hbw : b < wr.heap.size := Nat.lt_of_lt_of_le hbw hs2.size
        have hx := range_below hx hs2 (by assumption)
        have hst := hst.trans (hs2.mono hst.size)
        have ho := OwnL.below ho hs2
        by_cases hk0 : k = 0
        · have HSP := Lib.hid (show spotR seq x out m = k by rw [hsp.out, hk0]; rfl)
          have hgt : decide ((0 : Int) < (k : Int)) = false := by simp; omega
          clear hk0
          go_wp2_with fail
          refine wp_region_held (S := fun W => Below wr.heap.size wr W) (by kernel_rfl) ?_
          change wpAnyH _ _ _ _ _ _ _ _ wr.drew
          have c0_0 := (Below.refl wr.heap.size wr).drew
          refine Held.tk (v := .int .i64 (k : Int)) 0 (some 16) rfl (Held.y_move rfl rfl) c0_0 ?_
          simp only [Act.put, Z1, Z2, Z3]
          refine Held.tk (v := .bool false) 1 (some 17) rfl (Held.y_gtr rfl rfl rfl hgt) c0_0 ?_
          simp only [Act.put, Z1, Z2, Z3]
          refine Held.tk (v := .bool false) 2 (some 18) rfl (Held.y_move rfl rfl) c0_0 ?_
          simp only [Act.put, Z1, Z2, Z3]
          refine Held.skip 3 (some 19) rfl rfl (by kernel_rfl) (by kernel_rfl) (by kernel_rfl) (fun _ _ _ h => h) rfl c0_0 ?_
          simp only [Act.put, Z1, Z2, Z3]
          refine Held.skip 4 (some 20) rfl rfl (by kernel_rfl) (by kernel_rfl) (by kernel_rfl) (fun _ _ _ h => h) rfl c0_0 ?_
          simp only [Act.put, Z1, Z2, Z3]
          refine Held.skip 5 (some 21) rfl rfl (by kernel_rfl) (by kernel_rfl) (by kernel_rfl) (fun _ _ _ h => h) rfl c0_0 ?_
          simp only [Act.put, Z1, Z2, Z3]
          refine Held.skip 6 (some 22) rfl rfl (by kernel_rfl) (by kernel_rfl) (by kernel_rfl) (fun _ _ _ h => h) rfl c0_0 ?_
          simp only [Act.put, Z1, Z2, Z3]
          refine Held.skip 7 (some 23) rfl rfl (by kernel_rfl) (by kernel_rfl) (by kernel_rfl) (fun _ _ _ h => h) rfl c0_0 ?_
          simp only [Act.put, Z1, Z2, Z3]
          refine Held.skip 8 (some 24) rfl rfl (by kernel_rfl) (by kernel_rfl) (by kernel_rfl) (fun _ _ _ h => h) rfl c0_0 ?_
          simp only [Act.put, Z1, Z2, Z3]
          refine Held.skip 9 (some 25) rfl rfl (by kernel_rfl) (by kernel_rfl) (by kernel_rfl) (fun _ _ _ h => h) rfl c0_0 ?_
          simp only [Act.put, Z1, Z2, Z3]
          refine Held.skip 10 (some 26) rfl rfl (by kernel_rfl) (by kernel_rfl) (by kernel_rfl) (fun _ _ _ h => h) rfl c0_0 ?_
          simp only [Act.put, Z1, Z2, Z3]
          refine Held.skip 11 (some 27) rfl rfl (by kernel_rfl) (by kernel_rfl) (by kernel_rfl) (fun _ _ _ h => h) rfl c0_0 ?_
          simp only [Act.put, Z1, Z2, Z3]
          refine Held.skip 12 (some 28) rfl rfl (by kernel_rfl) (by kernel_rfl) (by kernel_rfl) (fun _ _ _ h => h) rfl c0_0 ?_
          simp only [Act.put, Z1, Z2, Z3]
          refine Held.skip 13 (some 29) rfl rfl (by kernel_rfl) (by kernel_rfl) (by kernel_rfl) (fun _ _ _ h => h) rfl c0_0 ?_
          simp only [Act.put, Z1, Z2, Z3]
          refine Held.tk (v := .bool false) 14 (some 30) rfl (Held.y_pickF rfl rfl rfl) c0_0 ?_
          simp only [Act.put, Z1, Z2, Z3]
          refine wpAnyH_done (by kernel_rfl) ?_ _
          have hcz := c0_0
          generalize wr.drew = wy at hcz ⊢
          have hbw := Nat.lt_of_lt_of_le hbw hcz.size
          have hx := range_below hx hcz (by assumption)
          have hst := hst.trans (hcz.mono hst.size)
          have ho := OwnL.below ho hcz
          obtain ⟨A1, A2, c2, f1, f2, k1, k2⟩ := own_parts ho HOW.out hk
          go_wp2_with fail
          refine wp_region_held (S := fun W => Below wy.heap.size wy W) (by kernel_rfl) ?_
          change wpAnyH _ _ _ _ _ _ _ _ wy.drew
          have c0_0 := (Below.refl wy.heap.size wy).drew
          refine Held.tk (v := .slice Ao m cm) 0 (some 33) rfl (Held.y_move rfl rfl) c0_0 ?_
          simp only [Act.put, Z1, Z2, Z3]
          refine Held.tk (v := .int .i64 (k : Int)) 1 (some 34) rfl (Held.y_move rfl rfl) c0_0 ?_
          simp only [Act.put, Z1, Z2, Z3]
          refine Held.tk (v := .slice A1 k cm) 2 (some 35) rfl (Held.y_slice rfl f1) c0_0 ?_
          simp only [Act.put, Z1, Z2, Z3]
          refine Held.tk (v := .slice (some ⟨b, off, none⟩) n c) 4 (some 37) rfl (Held.y_move rfl rfl) c0_0 ?_
          simp only [Act.put, Z1, Z2, Z3]
          refine Held.tk (v := .int .i64 (i : Int)) 5 (some 38) rfl (Held.y_move rfl rfl) c0_0 ?_
          simp only [Act.put, Z1, Z2, Z3]
          refine Held.tk (v := .pointer (some ⟨b, off + i * 4, none⟩)) 6 (some 39) rfl (Held.y_addr rfl rfl rfl (run_addr_of 27 26 b off n c i 4 .i64 Try.underlying27 (by kernel_rfl) hlt)) c0_0 ?_
          simp only [Act.put, Z1, Z2, Z3]
          refine Held.tk (v := .agg #[.bool x.d, .int .i64 x.k, .int .i64 x.v, .int .i64 x.s]) 7 (some 40) rfl (y_load_range (n := 4) (cs := x.cells) rfl rfl Try.underlying26 rfl (by kernel_rfl) rfl (fun W hW => range_below hx hW hbw)) c0_0 ?_
          simp only [Act.put, Z1, Z2, Z3]
          refine Held.tk (v := .slice Ao m cm) 10 (some 43) rfl (Held.y_move rfl rfl) c0_0 ?_
          simp only [Act.put, Z1, Z2, Z3]
          refine Held.tk (v := .int .i64 (k : Int)) 11 (some 44) rfl (Held.y_move rfl rfl) c0_0 ?_
          simp only [Act.put, Z1, Z2, Z3]
          refine Held.tk (v := .slice A2 (m - k) c2) 12 (some 45) rfl (Held.y_slice rfl f2) c0_0 ?_
          simp only [Act.put, Z1, Z2, Z3]
          refine Held.two 3 8 (by kernel_rfl) ?_ ?_
          · refine op_append_all (k := kRec) 3 (some 36) 27 26 rfl rfl rfl rfl Try.underlying27 _ 32 info_kRec rfl wy.heap.size wy.heap.size k cm A1 (.slice none 0 0) [] (out.take k) rfl rfl (OwnL.nil _ _ _ _) (Lst.below k1 c0_0) (by simp; omega) (by omega) c0_0.size ?_
            intro v36 w1 o36 g1 m36
            have c0_1 := c0_0.grown g1 c0_0.size (fun r e => by cases e)
            refine ⟨c0_1, ?_⟩
            simp only [Act.put, Z1, Z2, Z3]
            refine Held.one 8 (by kernel_rfl) ?_
            refine op_build_lst (k := kRec) 8 (some 41) 27 26 1 _ 32 [x] rfl rfl rfl rfl Try.underlying27 info_kRec rfl rfl (by simp [Act.eval, kRec, R.cells]) (by omega) (by decide) ?_
            intro p41 w2 q41 b2 h41
            have c0_2 := c0_1.trans (b2.mono c0_1.size)
            have o36 := OwnL.below o36 b2
            refine ⟨c0_2, ?_⟩
            simp only [Act.put, Z1, Z2, Z3]
            refine Held.one 9 (by kernel_rfl) ?_
            refine op_append_all (k := kRec) 9 (some 42) 27 26 rfl rfl rfl rfl Try.underlying27 _ 32 info_kRec rfl wy.heap.size w2.heap.size 1 1 (some ⟨p41, 0, none⟩) v36 _ [x] rfl rfl o36 (lst_whole (k := kRec) q41 rfl (fun y hy => by rw [List.mem_singleton.1 hy]; exact wx)) (by simp; omega) (by omega) c0_2.size ?_
            intro v42 w3 o42 g3 m42
            have c0_3 := c0_2.grown g3 c0_2.size (fun r e => (OwnL.lt o36 r e).1)
            refine ⟨c0_3, ?_⟩
            simp only [Act.put, Z1, Z2, Z3]
            refine Held.one 13 (by kernel_rfl) ?_
            refine op_append_all (k := kRec) 13 (some 46) 27 26 rfl rfl rfl rfl Try.underlying27 _ 32 info_kRec rfl wy.heap.size wy.heap.size (m - k) c2 A2 v42 _ (out.drop k) rfl rfl o42 (Lst.below k2 c0_3) (by simp; omega) (by omega) c0_3.size ?_
            intro v46 w4 o46 g4 m46
            have c0_4 := c0_3.grown g4 c0_3.size (fun r e => (OwnL.lt o42 r e).1)
            refine ⟨c0_4, ?_⟩
            simp only [Act.put, Z1, Z2, Z3]
            refine Held.tk (v := v46) 14 (some 5) rfl (Held.y_assign rfl rfl) c0_4 ?_
            simp only [Act.put, Z1, Z2, Z3]
            refine wpAnyH_done (by kernel_rfl) ?_ _
            have dz := hst.trans (c0_4.mono hst.size)
            have oz := OwnL.less o46 hst.size
            have hins : [] ++ out.take k ++ [x] ++ out.drop k = insR seq out x := by unfold insR; rw [HM.out, HSP.out]; simp
            rw [hins] at oz
            clear hins f1 f2 k1 k2 o36 o42 o46
            go_wp2_with fail
            go_roundw
            case rel => exact ⟨i + 1, by omega, by go_num, by rw [HNX.out]; exact oz, dz⟩
            case measure => simp [intOf]; omega
          · refine op_build_lst (k := kRec) 8 (some 41) 27 26 1 _ 32 [x] rfl rfl rfl rfl Try.underlying27 info_kRec rfl rfl (by simp [Act.eval, kRec, R.cells]) (by omega) (by decide) ?_
            intro p41 w1 q41 b1 h41
            have c0_1 := c0_0.trans (b1.mono c0_0.size)
            refine ⟨c0_1, ?_⟩
            simp only [Act.put, Z1, Z2, Z3]
            refine Held.one 3 (by kernel_rfl) ?_
            refine op_append_all (k := kRec) 3 (some 36) 27 26 rfl rfl rfl rfl Try.underlying27 _ 32 info_kRec rfl wy.heap.size wy.heap.size k cm A1 (.slice none 0 0) [] (out.take k) rfl rfl (OwnL.nil _ _ _ _) (Lst.below k1 c0_1) (by simp; omega) (by omega) c0_1.size ?_
            intro v36 w2 o36 g2 m36
            have c0_2 := c0_1.grown g2 c0_1.size (fun r e => by cases e)
            have q41 := Blk.grown q41 g2 (by simp [Value.ownBlock])
            refine ⟨c0_2, ?_⟩
            simp only [Act.put, Z1, Z2, Z3]
            refine Held.one 9 (by kernel_rfl) ?_
            refine op_append_all (k := kRec) 9 (some 42) 27 26 rfl rfl rfl rfl Try.underlying27 _ 32 info_kRec rfl wy.heap.size w2.heap.size 1 1 (some ⟨p41, 0, none⟩) v36 _ [x] rfl rfl o36 (lst_whole (k := kRec) q41 rfl (fun y hy => by rw [List.mem_singleton.1 hy]; exact wx)) (by simp; omega) (by omega) c0_2.size ?_
            intro v42 w3 o42 g3 m42
            have c0_3 := c0_2.grown g3 c0_2.size (fun r e => (OwnL.lt o36 r e).1)
            refine ⟨c0_3, ?_⟩
            simp only [Act.put, Z1, Z2, Z3]
            refine Held.one 13 (by kernel_rfl) ?_
            refine op_append_all (k := kRec) 13 (some 46) 27 26 rfl rfl rfl rfl Try.underlying27 _ 32 info_kRec rfl wy.heap.size wy.heap.size (m - k) c2 A2 v42 _ (out.drop k) rfl rfl o42 (Lst.below k2 c0_3) (by simp; omega) (by omega) c0_3.size ?_
            intro v46 w4 o46 g4 m46
            have c0_4 := c0_3.grown g4 c0_3.size (fun r e => (OwnL.lt o42 r e).1)
            refine ⟨c0_4, ?_⟩
            simp only [Act.put, Z1, Z2, Z3]
            refine Held.tk (v := v46) 14 (some 5) rfl (Held.y_assign rfl rfl) c0_4 ?_
            simp only [Act.put, Z1, Z2, Z3]
            refine wpAnyH_done (by kernel_rfl) ?_ _
            have dz := hst.trans (c0_4.mono hst.size)
            have oz := OwnL.less o46 hst.size
            have hins : [] ++ out.take k ++ [x] ++ out.drop k = insR seq out x := by unfold insR; rw [HM.out, HSP.out]; simp
            rw [hins] at oz
            clear hins f1 f2 k1 k2 o36 o42 o46
            go_wp2_with fail
            go_roundw
            case rel => exact ⟨i + 1, by omega, by go_num, by rw [HNX.out]; exact oz, dz⟩
            case measure => simp [intOf]; omega
        · obtain ⟨g, rfl, _, hgw, _⟩ := own0 ho (by omega)
          have hkm : k - 1 < m := by omega
          obtain ⟨b', off', e1, _, hy⟩ := (OwnL.lst ho HOW.out).at_ hkm
          injection e1 with e1
          injection e1 with e1 e2
          subst e1
          subst e2
          have hy : wr.rangeAt g (0 + (k - 1) * 4) (out.getD (k - 1) R0).cells := hy
          have HSP := Lib.hid (show spotR seq x out k = if lead seq x (out.getD (k - 1) R0) then spotR seq x out (k - 1) else k by
            obtain ⟨q, rfl⟩ : ∃ q, k = q + 1 := ⟨k - 1, by omega⟩
            rfl)
          have HK1 := Lib.hid (show IntKind.i64.wrap ((k : Int) - 1) = ((k - 1 : Nat) : Int) by rw [IntKind.wrap_i64]; omega)
          have hgt : decide ((0 : Int) < (k : Int)) = true := by simp; omega
          generalize out.getD (k - 1) R0 = y at hy HSP
          go_wp2_with fail
          refine wp_region_held (S := fun W => Below wr.heap.size wr W) (by kernel_rfl) ?_
          change wpAnyH _ _ _ _ _ _ _ _ wr.drew
          have c0_0 := (Below.refl wr.heap.size wr).drew
          refine Held.tk (v := .int .i64 (k : Int)) 0 (some 16) rfl (Held.y_move rfl rfl) c0_0 ?_
          simp only [Act.put, Z1, Z2, Z3]
          refine Held.tk (v := .bool true) 1 (some 17) rfl (Held.y_gtr rfl rfl rfl hgt) c0_0 ?_
          simp only [Act.put, Z1, Z2, Z3]
          refine Held.tk (v := .bool true) 2 (some 18) rfl (Held.y_move rfl rfl) c0_0 ?_
          simp only [Act.put, Z1, Z2, Z3]
          refine Held.tk (v := .slice (some ⟨b, off, none⟩) n c) 3 (some 19) rfl (Held.y_move rfl rfl) c0_0 ?_
          simp only [Act.put, Z1, Z2, Z3]
          refine Held.tk (v := .int .i64 (i : Int)) 4 (some 20) rfl (Held.y_move rfl rfl) c0_0 ?_
          simp only [Act.put, Z1, Z2, Z3]
          refine Held.tk (v := .pointer (some ⟨b, off + i * 4, none⟩)) 5 (some 21) rfl (Held.y_addr rfl rfl rfl (run_addr_of 27 26 b off n c i 4 .i64 Try.underlying27 (by kernel_rfl) hlt)) c0_0 ?_
          simp only [Act.put, Z1, Z2, Z3]
          refine Held.tk (v := .agg #[.bool x.d, .int .i64 x.k, .int .i64 x.v, .int .i64 x.s]) 6 (some 22) rfl (y_load_range (n := 4) (cs := x.cells) rfl rfl Try.underlying26 rfl (by kernel_rfl) rfl (fun W hW => range_below hx hW hbw)) c0_0 ?_
          simp only [Act.put, Z1, Z2, Z3]
          refine Held.tk (v := .slice (some ⟨g, 0, none⟩) m cm) 7 (some 23) rfl (Held.y_move rfl rfl) c0_0 ?_
          simp only [Act.put, Z1, Z2, Z3]
          refine Held.tk (v := .int .i64 (k : Int)) 8 (some 24) rfl (Held.y_move rfl rfl) c0_0 ?_
          simp only [Act.put, Z1, Z2, Z3]
          refine Held.tk (v := .int .i64 ((k - 1 : Nat) : Int)) 9 (some 25) rfl (Held.y_int rfl rfl rfl (Held.run_sub 3 .i64 HK1.out)) c0_0 ?_
          simp only [Act.put, Z1, Z2, Z3]
          refine Held.tk (v := .pointer (some ⟨g, 0 + (k - 1) * 4, none⟩)) 10 (some 26) rfl (Held.y_addr rfl rfl rfl (run_addr_of 27 26 g 0 m cm (k - 1) 4 .i64 Try.underlying27 (by kernel_rfl) hkm)) c0_0 ?_
          simp only [Act.put, Z1, Z2, Z3]
          refine Held.tk (v := .agg #[.bool y.d, .int .i64 y.k, .int .i64 y.v, .int .i64 y.s]) 11 (some 27) rfl (y_load_range (n := 4) (cs := y.cells) rfl rfl Try.underlying26 rfl (by kernel_rfl) rfl (fun W hW => range_below hy hW hgw)) c0_0 ?_
          simp only [Act.put, Z1, Z2, Z3]
          refine Held.tk (v := .bool seq) 12 (some 28) rfl (Held.y_move rfl rfl) c0_0 ?_
          simp only [Act.put, Z1, Z2, Z3]
          refine Held.one 13 (by kernel_rfl) ?_
          refine Held.op_call 13 (some 29) 32 #[.agg #[.bool x.d, .int .i64 x.k, .int .i64 x.v, .int .i64 x.s], .agg #[.bool y.d, .int .i64 y.k, .int .i64 y.v, .int .i64 y.s], .bool seq] rfl rfl rfl rfl (enters_of Try.func32 (by kernel_rfl) rfl) (by simp [Act.eval])
            (rlead_any seq x y _) ?_
          rintro e w1 ⟨rfl, b1⟩
          have c0_1 := c0_0.trans (b1.mono c0_0.size)
          refine ⟨_, rfl, c0_1, ?_⟩
          simp only [Act.put, Z1, Z2, Z3]
          refine Held.tk (v := .bool (lead seq x y)) 14 (some 30) rfl (Held.y_pick rfl rfl rfl) c0_1 ?_
          simp only [Act.put, Z1, Z2, Z3]
          refine wpAnyH_done (by kernel_rfl) ?_ _
          have dz := hs2.trans (c0_1.mono hs2.size)
          cases hl : lead seq x y with
          | true =>
            rw [hl] at HSP
            have hsp2 := Lib.hid (show spotR seq x out m = spotR seq x out (k - 1) by rw [hsp.out, HSP.out]; rfl)
            clear hsp HSP
            go_wp2_with (refine Held.wpList_run (w := w1) rfl (v := .int .i64 ((k - 1 : Nat) : Int)) (Held.y_int (S := fun _ => True) rfl rfl rfl (Held.run_sub 3 .i64 HK1.out) _ trivial) ?_)
            go_roundw
            case rel => exact ⟨k - 1, by omega, rfl, hsp2, dz⟩
            case measure => simp [intOf]; omega
          | false =>
            rw [hl] at HSP
            have HSP := Lib.hid (show spotR seq x out m = k by rw [hsp.out, HSP.out]; rfl)
            have hcz := c0_1
            clear hsp hl dz
            generalize w1 = wy at hcz ⊢
            have hbw := Nat.lt_of_lt_of_le hbw hcz.size
            have hx := range_below hx hcz (by assumption)
            have hst := hst.trans (hcz.mono hst.size)
            have ho := OwnL.below ho hcz
            obtain ⟨A1, A2, c2, f1, f2, k1, k2⟩ := own_parts ho HOW.out hk
            go_wp2_with fail
            refine wp_region_held (S := fun W => Below wy.heap.size wy W) (by kernel_rfl) ?_
            change wpAnyH _ _ _ _ _ _ _ _ wy.drew
            have c0_0 := (Below.refl wy.heap.size wy).drew
            refine Held.tk (v := .slice (some ⟨g, 0, none⟩) m cm) 0 (some 33) rfl (Held.y_move rfl rfl) c0_0 ?_
            simp only [Act.put, Z1, Z2, Z3]
            refine Held.tk (v := .int .i64 (k : Int)) 1 (some 34) rfl (Held.y_move rfl rfl) c0_0 ?_
            simp only [Act.put, Z1, Z2, Z3]
            refine Held.tk (v := .slice A1 k cm) 2 (some 35) rfl (Held.y_slice rfl f1) c0_0 ?_
            simp only [Act.put, Z1, Z2, Z3]
            refine Held.tk (v := .slice (some ⟨b, off, none⟩) n c) 4 (some 37) rfl (Held.y_move rfl rfl) c0_0 ?_
            simp only [Act.put, Z1, Z2, Z3]
            refine Held.tk (v := .int .i64 (i : Int)) 5 (some 38) rfl (Held.y_move rfl rfl) c0_0 ?_
            simp only [Act.put, Z1, Z2, Z3]
            refine Held.tk (v := .pointer (some ⟨b, off + i * 4, none⟩)) 6 (some 39) rfl (Held.y_addr rfl rfl rfl (run_addr_of 27 26 b off n c i 4 .i64 Try.underlying27 (by kernel_rfl) hlt)) c0_0 ?_
            simp only [Act.put, Z1, Z2, Z3]
            refine Held.tk (v := .agg #[.bool x.d, .int .i64 x.k, .int .i64 x.v, .int .i64 x.s]) 7 (some 40) rfl (y_load_range (n := 4) (cs := x.cells) rfl rfl Try.underlying26 rfl (by kernel_rfl) rfl (fun W hW => range_below hx hW hbw)) c0_0 ?_
            simp only [Act.put, Z1, Z2, Z3]
            refine Held.tk (v := .slice (some ⟨g, 0, none⟩) m cm) 10 (some 43) rfl (Held.y_move rfl rfl) c0_0 ?_
            simp only [Act.put, Z1, Z2, Z3]
            refine Held.tk (v := .int .i64 (k : Int)) 11 (some 44) rfl (Held.y_move rfl rfl) c0_0 ?_
            simp only [Act.put, Z1, Z2, Z3]
            refine Held.tk (v := .slice A2 (m - k) c2) 12 (some 45) rfl (Held.y_slice rfl f2) c0_0 ?_
            simp only [Act.put, Z1, Z2, Z3]
            refine Held.two 3 8 (by kernel_rfl) ?_ ?_
            · refine op_append_all (k := kRec) 3 (some 36) 27 26 rfl rfl rfl rfl Try.underlying27 _ 32 info_kRec rfl wy.heap.size wy.heap.size k cm A1 (.slice none 0 0) [] (out.take k) rfl rfl (OwnL.nil _ _ _ _) (Lst.below k1 c0_0) (by simp; omega) (by omega) c0_0.size ?_
              intro v36 w1 o36 g1 m36
              have c0_1 := c0_0.grown g1 c0_0.size (fun r e => by cases e)
              refine ⟨c0_1, ?_⟩
              simp only [Act.put, Z1, Z2, Z3]
              refine Held.one 8 (by kernel_rfl) ?_
              refine op_build_lst (k := kRec) 8 (some 41) 27 26 1 _ 32 [x] rfl rfl rfl rfl Try.underlying27 info_kRec rfl rfl (by simp [Act.eval, kRec, R.cells]) (by omega) (by decide) ?_
              intro p41 w2 q41 b2 h41
              have c0_2 := c0_1.trans (b2.mono c0_1.size)
              have o36 := OwnL.below o36 b2
              refine ⟨c0_2, ?_⟩
              simp only [Act.put, Z1, Z2, Z3]
              refine Held.one 9 (by kernel_rfl) ?_
              refine op_append_all (k := kRec) 9 (some 42) 27 26 rfl rfl rfl rfl Try.underlying27 _ 32 info_kRec rfl wy.heap.size w2.heap.size 1 1 (some ⟨p41, 0, none⟩) v36 _ [x] rfl rfl o36 (lst_whole (k := kRec) q41 rfl (fun y hy => by rw [List.mem_singleton.1 hy]; exact wx)) (by simp; omega) (by omega) c0_2.size ?_
              intro v42 w3 o42 g3 m42
              have c0_3 := c0_2.grown g3 c0_2.size (fun r e => (OwnL.lt o36 r e).1)
              refine ⟨c0_3, ?_⟩
              simp only [Act.put, Z1, Z2, Z3]
              refine Held.one 13 (by kernel_rfl) ?_
              refine op_append_all (k := kRec) 13 (some 46) 27 26 rfl rfl rfl rfl Try.underlying27 _ 32 info_kRec rfl wy.heap.size wy.heap.size (m - k) c2 A2 v42 _ (out.drop k) rfl rfl o42 (Lst.below k2 c0_3) (by simp; omega) (by omega) c0_3.size ?_
              intro v46 w4 o46 g4 m46
              have c0_4 := c0_3.grown g4 c0_3.size (fun r e => (OwnL.lt o42 r e).1)
              refine ⟨c0_4, ?_⟩
              simp only [Act.put, Z1, Z2, Z3]
              refine Held.tk (v := v46) 14 (some 5) rfl (Held.y_assign rfl rfl) c0_4 ?_
              simp only [Act.put, Z1, Z2, Z3]
              refine wpAnyH_done (by kernel_rfl) ?_ _
              have dz := hst.trans (c0_4.mono hst.size)
              have oz := OwnL.less o46 hst.size
              have hins : [] ++ out.take k ++ [x] ++ out.drop k = insR seq out x := by unfold insR; rw [HM.out, HSP.out]; simp
              rw [hins] at oz
              clear hins f1 f2 k1 k2 o36 o42 o46
              go_wp2_with fail
              go_roundw
              case rel => exact ⟨i + 1, by omega, by go_num, by rw [HNX.out]; exact oz, dz⟩
              case measure => simp [intOf]; omega
            · refine op_build_lst (k := kRec) 8 (some 41) 27 26 1 _ 32 [x] rfl rfl rfl rfl Try.underlying27 info_kRec rfl rfl (by simp [Act.eval, kRec, R.cells]) (by omega) (by decide) ?_
              intro p41 w1 q41 b1 h41
              have c0_1 := c0_0.trans (b1.mono c0_0.size)
              refine ⟨c0_1, ?_⟩
              simp only [Act.put, Z1, Z2, Z3]
              refine Held.one 3 (by kernel_rfl) ?_
              refine op_append_all (k := kRec) 3 (some 36) 27 26 rfl rfl rfl rfl Try.underlying27 _ 32 info_kRec rfl wy.heap.size wy.heap.size k cm A1 (.slice none 0 0) [] (out.take k) rfl rfl (OwnL.nil _ _ _ _) (Lst.below k1 c0_1) (by simp; omega) (by omega) c0_1.size ?_
              intro v36 w2 o36 g2 m36
              have c0_2 := c0_1.grown g2 c0_1.size (fun r e => by cases e)
              have q41 := Blk.grown q41 g2 (by simp [Value.ownBlock])
              refine ⟨c0_2, ?_⟩
              simp only [Act.put, Z1, Z2, Z3]
              refine Held.one 9 (by kernel_rfl) ?_
              refine op_append_all (k := kRec) 9 (some 42) 27 26 rfl rfl rfl rfl Try.underlying27 _ 32 info_kRec rfl wy.heap.size w2.heap.size 1 1 (some ⟨p41, 0, none⟩) v36 _ [x] rfl rfl o36 (lst_whole (k := kRec) q41 rfl (fun y hy => by rw [List.mem_singleton.1 hy]; exact wx)) (by simp; omega) (by omega) c0_2.size ?_
              intro v42 w3 o42 g3 m42
              have c0_3 := c0_2.grown g3 c0_2.size (fun r e => (OwnL.lt o36 r e).1)
              refine ⟨c0_3, ?_⟩
              simp only [Act.put, Z1, Z2, Z3]
              refine Held.one 13 (by kernel_rfl) ?_
              refine op_append_all (k := kRec) 13 (some 46) 27 26 rfl rfl rfl rfl Try.underlying27 _ 32 info_kRec rfl wy.heap.size wy.heap.size (m - k) c2 A2 v42 _ (out.drop k) rfl rfl o42 (Lst.below k2 c0_3) (by simp; omega) (by omega) c0_3.size ?_
              intro v46 w4 o46 g4 m46
              have c0_4 := c0_3.grown g4 c0_3.size (fun r e => (OwnL.lt o42 r e).1)
              refine ⟨c0_4, ?_⟩
              simp only [Act.put, Z1, Z2, Z3]
              refine Held.tk (v := v46) 14 (some 5) rfl (Held.y_assign rfl rfl) c0_4 ?_
              simp only [Act.put, Z1, Z2, Z3]
              refine wpAnyH_done (by kernel_rfl) ?_ _
              have dz := hst.trans (c0_4.mono hst.size)
              have oz := OwnL.less o46 hst.size
              have hins : [] ++ out.take k ++ [x] ++ out.drop k = insR seq out x := by unfold insR; rw [HM.out, HSP.out]; simp
              rw [hins] at oz
              clear hins f1 f2 k1 k2 o36 o42 o46
              go_wp2_with fail
              go_roundw
              case rel => exact ⟨i + 1, by omega, by go_num, by rw [HNX.out]; exact oz, dz⟩
              case measure => simp [intOf]; omega
    · obtain rfl : i = n := by omega
      have HS := Lib.hid (show (rs.take i).foldl (insR seq) [] = sortR seq rs by rw [List.take_of_length_le (by rw [HL.out]; exact Nat.le_refl _)]; rfl)
      go_wp2_with fail
      go_ret
      exact ⟨_, rfl, by rw [← HS.out]; exact ho, hst⟩
end Go.Proofs.Ytkiempdpfmolfaa.Mg
