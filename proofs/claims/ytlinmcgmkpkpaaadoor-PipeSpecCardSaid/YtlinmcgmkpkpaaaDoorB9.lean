/-
  Package bitonic's iterator over a round's pairs, by its contract: it hands out the first places, rising, each with the second one.
  dominohelp.Stops of package bitonic's iterator: told to stop behind so many pairs it hands out no more.
  A region that draws its order and in the end stores into what it has loaded: what is loaded ahead of a store that waits for it may be taken first, as long as a condition holds till that store.
  dominohelp.Seq2 of package bitonic's iterator: the first places of a round's pairs, and the second ones, as two lists of the call's own.
  dominohelp.Seq2 of package bitonic's iterator, by its contract.
  dominohelp.Plain of lists of numbers, and the document's own answers for package bitonic, by their contracts.
  The document's own answers for package bitonic: which stage and step a round is, which pairs it has, and which of them are up, by their contracts.
  Package merge's iterator over every other place, by its contract: it hands out the places f, f + 2, .., till there is none or it is told to stop.
  Package merge's leads and settle by their contracts: which of two records stands ahead by either order; two neighbours of a list of the call's own.
  Lists of structs in a block that is filled step by step; append within the room: no program here.
  Appending a list of structs of any length, none among them, onto a list of the call's own; the library's slices.Clone and slices.Grow of records, by their contracts.
-/
import Derived.Test.YtlinmcgmkpkpaaaDoorB8
import Derived.Test.YtlinmcgmkpkpaaaDoorB4
import Derived.Test.YtlinmcgmkpkpaaaDoorB5
import Derived.Test.YtlinmcgmkpkpaaaDoorB2
import Derived.Test.YtlinmcgmkpkpaaaDoorB3
import Derived.Test.YtlinmcgmkpkpaaaDoorB7
import Derived.Test.YtlinmcgmkpkpaaaDoorB1
import Derived.Test.YtlinmcgmkpkpaaaDoorB6
import Derived.OwnWalk
import Derived.Lib.LazyBuf
set_option linter.unusedVariables false
namespace Go.Proofs.YtlinmcgmkpkpaaaDoor.Bi
open Go.RowKit Go.Shelf Go.Proofs.YtlinmcgmkpkpaaaDoor Mem Held Go.Proofs.YtlinmcgmkpkpaaaDoor.Range
attribute [local go_sem] Oper.semAt_some
attribute [local irreducible] wpList wpListIn Calls
theorem firsts_prefix (d : Nat) {k : Nat} : ∀ {n : Nat}, k ≤ n → Net.firsts d k <+: Net.firsts d n
  | 0, h => by have : k = 0 := by omega
               subst this; exact List.prefix_refl _
  | n + 1, h => by
    rcases Nat.lt_or_ge k (n + 1) with c | c
    · rw [Net.firsts_succ]
      exact (firsts_prefix d (show k ≤ n by omega)).trans (List.prefix_append _ _)
    · have : k = n + 1 := by omega
      subst this; exact List.prefix_refl _
def pairsOf (n : Int) (t : Nat) (ok : Bool) : List Nat := if ok then Net.firsts (2 ^ (t - 1)) n.toNat else []
def EncP (t : Nat) (a : Nat) (B0 : Nat) (W : World) (args : Array Value) : Prop := args = #[.int .i64 (a : Int), .int .i64 ((a : Int) + 2 ^ (t - 1))]
theorem Found.is {n : Int} {r : Int} {s t : Nat} {ok : Bool} (h : Found (stg n) r s t ok) (ho : ok = true) : n = ((2 ^ stg n : Nat) : Int) ∧ 1 ≤ t ∧ t ≤ s ∧ s ≤ stg n ∧ stg n ≤ 16 := by
  have h16 := stg_le n
  rcases h with ⟨_, h2⟩ | ⟨h1, _⟩
  · have := h2.t1
    have := h2.ts
    have := h2.sS
    rcases stg_is n with e | ⟨e, _⟩
    · exact ⟨by rw [← two_nat]; exact e, by omega, by omega, by omega, h16⟩
    · omega
  · rw [ho] at h1; cases h1
set_option maxRecDepth 100000 in
set_option maxHeartbeats 4000000 in
theorem round_give (N bn br : Nat) (n r : Int) (s t : Nat) (ok : Bool) (w : World) (h0 : -9223372036854775808 ≤ n) (h1 : n ≤ 9223372036854775807) (hT : TzT w) (hF : Found (stg n) r s t ok)
    (hbn : Blk w bn 3 #[.int .i64 n]) (hbr : Blk w br 3 #[.int .i64 r]) :
    SeqGive Fence.wide N Tryd.prog 82 #[.pointer (some ⟨bn, 0, none⟩), .pointer (some ⟨br, 0, none⟩)] (EncP t) (fun _ _ => True) (pairsOf n t ok) w := by
  intro l J W hW hJ hY h00
  have kbn := (hbn.after hW).cell (i := 0) rfl
  have kbr := (hbr.after hW).cell (i := 0) rfl
  have H := find_any n r (stg n) s t ok W h0 h1 (hT.below hW hT.lt) rfl hF
  have hI := hF.is
  clear hbn hbr hT hF hW h0 h1
  refine callsIn_of_wp Tryd.func82 rfl trivial ?_ rfl
  simp only [Tryd.ntmps82, List.size_toArray, List.length_cons, List.length_nil, Nat.reduceAdd, Nat.reduceSub, Array.replicate_succ, Array.replicate_zero, List.push_toArray, List.append_toArray, List.nil_append, List.cons_append]
  cases ok with
  | false =>
    gi_wp2_with fail
    refine ⟨trivial, fun h => (by cases h), ?_⟩
    refine (callsIn_wide.2 H).mono ?_
    rintro e w3 ⟨rfl, rfl⟩
    gi_wp2_with fail
    exact bodyPost_ret (results_none rfl _ _ _) rfl ⟨⟨_, rfl⟩, h00⟩
  | true =>
    obtain ⟨hn, t1, t2, t3, t4⟩ := hI rfl
    have hd := two_nat (t - 1)
    have hd1 := two_pos (t - 1)
    have hd2 := two_16 (show t - 1 ≤ 16 by omega)
    obtain ⟨M, hM⟩ : ∃ M : Nat, 2 ^ stg n = M := ⟨_, rfl⟩
    have hM16 : M ≤ 65536 := by rw [← hM]; exact Nat.pow_le_pow_right (by omega) t4
    have hM1 : 1 ≤ M := by rw [← hM]; exact Nat.two_pow_pos _
    rw [hM] at hn
    obtain ⟨dN, hdN⟩ : ∃ dN : Nat, 2 ^ (t - 1) = dN := ⟨_, rfl⟩
    have HP := Lib.hid (show pairsOf n t true = Net.firsts dN M by unfold pairsOf; rw [if_pos rfl, hdN, hn]; rfl)
    have HAP := Lib.hid (fun W => apart_any t W t1 (show t ≤ 16 by omega))
    have HLO := Lib.hid (fun (W : World) (k : Nat) (hk : k ≤ 65536) => lower_any (k : Int) t W (by omega) (by omega) t1 (show t ≤ 16 by omega))
    rw [hdN] at hd
    have HY := Lib.hid (fun (k : Nat) (wr : World) (hk : k < M) (hb : k / dN % 2 = 0) (hJk : J (Net.firsts dN k) wr) => hY (Net.firsts dN k) k #[.int .i64 (k : Int), .int .i64 ((k : Int) + dN)] wr wr hJk (World.grownBy.refl _ _) (by unfold EncP; rw [hd]) (by
      rw [HP.out]
      have := firsts_prefix dN (show k + 1 ≤ M by omega)
      rw [Net.firsts_succ, if_pos hb] at this
      exact this))
    rw [hd] at hd1 hd2 HAP HLO
    have HFS := Lib.hid (Net.firsts_succ dN)
    rw [HP.out]
    subst hn
    clear hY hI hd hdN hM HP t3 t4 t2 t1
    gi_wp2_with fail
    refine ⟨trivial, fun h => (by cases h), ?_⟩
    refine (callsIn_wide.2 H).mono ?_
    rintro e w3 ⟨rfl, rfl⟩
    clear H
    gi_wp2_with fail
    gi_loopw [18] (fun i wr => ∃ k : Nat, k ≤ M ∧ i = .int .i64 k ∧ J (Net.firsts dN k) wr) (fun i _ => M - (intOf i).toNat)
    case atStart => exact ⟨0, by omega, rfl, h00⟩
    case round =>
      clear h00 kbn kbr
      obtain ⟨k, hk, rfl, Jk⟩ := hrel
      by_cases hlt : k < M
      · have hlt' : (k : Int) < (M : Int) := by omega
        have hL := HLO.out wr k (by omega)
        by_cases hb : k / dN % 2 = 0
        · have hdec : decide ((k : Int) / (dN : Int) % 2 = 0) = true := by
            rw [← Int.natCast_ediv]; simp; omega
          rw [hdec] at hL
          obtain ⟨fn, tmps, assign, body, hy, hR⟩ := HY.out k wr hlt hb Jk
          have hfs : Net.firsts dN (k + 1) = Net.firsts dN k ++ [k] := by rw [HFS.out, if_pos hb]
          rw [← hfs] at hR
          have hadd : IntKind.i64.wrap ((k : Int) + (dN : Int)) = (k : Int) + dN := by rw [IntKind.wrap_i64]; omega
          clear hfs hb hdec
          gi_wp2_with fail
          refine ⟨trivial, fun h => (by cases h), ?_⟩
          refine (callsIn_wide.2 hL).mono ?_
          rintro e w4 ⟨rfl, rfl⟩
          gi_wp2_with fail
          refine ⟨trivial, fun h => (by cases h), ?_⟩
          refine (callsIn_wide.2 (HAP.out wr)).mono ?_
          rintro e w5 ⟨rfl, rfl⟩
          gi_wp2_with fail
          refine ⟨fun h => (by cases h), ?_⟩
          refine hR.mono ?_
          rintro e W4 ⟨rfl, J4, -⟩
          gi_wp2_with fail
          go_roundw
          case rel => exact ⟨k + 1, by omega, by go_num, J4⟩
          case measure => simp [intOf]; omega
        · have hdec : decide ((k : Int) / (dN : Int) % 2 = 0) = false := by
            rw [← Int.natCast_ediv]; simp; omega
          rw [hdec] at hL
          have hfs : Net.firsts dN (k + 1) = Net.firsts dN k := by rw [HFS.out, if_neg hb, List.append_nil]
          rw [← hfs] at Jk
          clear hfs hb hdec
          gi_wp2_with fail
          refine ⟨trivial, fun h => (by cases h), ?_⟩
          refine (callsIn_wide.2 hL).mono ?_
          rintro e w4 ⟨rfl, rfl⟩
          gi_wp2_with fail
          refine ⟨trivial, ?_⟩
          gi_wp2_with fail
          try refine ⟨fun _ h => (by cases h), ?_⟩
          gi_wp2_with fail
          go_roundw
          case rel => exact ⟨k + 1, by omega, by go_num, Jk⟩
          case measure => simp [intOf]; omega
      · have hkM : k = M := by omega
        subst hkM
        gi_wp2_with fail
        go_end0
        exact ⟨⟨_, rfl⟩, Jk⟩
end Go.Proofs.YtlinmcgmkpkpaaaDoor.Bi
namespace Go.Proofs.YtlinmcgmkpkpaaaDoor.Bi
open Go.RowKit Go.Shelf Go.Proofs.YtlinmcgmkpkpaaaDoor Mem Held Go.Proofs.YtlinmcgmkpkpaaaDoor.Range
attribute [local go_sem] Oper.semAt_some
attribute [local irreducible] wpList wpListIn Calls
end Go.Proofs.YtlinmcgmkpkpaaaDoor.Bi
namespace Go.Proofs.YtlinmcgmkpkpaaaDoor.Held
open Go.RowKit
def wpAnyB (P : Program) (md : Region.Mode) (ops : Array Oper) (Q : Exit → Act → World → Prop) (T : World → Prop) (s : Nat) : Nat → Array Bool → Act → World → Prop
  | 0, listed, a, w => Region.ready md ops listed = [] ∧ Q .normal a w
  | fuel + 1, listed, a, w =>
    (Region.ready md ops listed = [] → Q .normal a w) ∧
    ∀ i ∈ Region.ready md ops listed, wpOp P ops Q i (fun a' w' => ((listed.setIfInBounds i true).getD s true = false → T w') ∧ wpAnyB P md ops Q T s fuel (listed.setIfInBounds i true) a' w') a w
section
variable {P : Program} {ops : Array Oper} {Q : Exit → Act → World → Prop} {md : Region.Mode} {T : World → Prop} {s : Nat}
theorem wpAny_of_bar : ∀ (fuel : Nat) (listed : Array Bool) (a : Act) (w : World), wpAnyB P md ops Q T s fuel listed a w → wpAny P md ops Q fuel listed a w
  | 0, _, _, _, h => h
  | fuel + 1, _, _, _, h => ⟨h.1, fun i hi => wpOp_mono (fun a' w' h' => wpAny_of_bar fuel _ a' w' h'.2) (h.2 i hi)⟩
theorem not_yet {listed : Array Bool} {j : Nat} {oj : Oper} (hj : j ∈ Region.ready md ops listed) (ho : ops[j]? = some oj) {e : Edge} (he : e ∈ oj.after) (hb : Region.binds md e = true) : listed.getD e.on true ≠ false := fun hx => by
  obtain ⟨_, o, h1, h2⟩ := mem_ready.1 hj
  obtain rfl : o = oj := by rw [h1] at ho; exact Option.some.inj ho
  have := h2 e he hb
  by_cases c : e.on < listed.size
  · simp [c] at hx this; exact absurd (this.symm.trans hx) (by simp)
  · simp [Array.getElem?_eq_none (Nat.le_of_not_lt c)] at this
structure Early (md : Region.Mode) (ops : Array Oper) (B : List Nat) (i : Nat) (oi : Oper) (listed : Array Bool) : Prop where
  ready : i ∈ Region.ready md ops listed
  free : ∀ j oj, ops[j]? = some oj → j ≠ i → listed.getD j true = false → (∀ e ∈ oj.after, Region.binds md e = true → e.on ≠ i) → oi.apart ops oj = true
  late : ∀ b ∈ B, listed.getD b true = false
def Waits (md : Region.Mode) (ops : Array Oper) (B : List Nat) (i : Nat) : Prop := i ∉ B ∧ ∀ b ∈ B, ∀ o, ops[b]? = some o → ∃ e ∈ o.after, Region.binds md e = true ∧ (e.on = i ∨ e.on ∈ B)
section
variable {B : List Nat} {i : Nat} {oi : Oper} {listed : Array Bool}
theorem Early.un (h : Early md ops B i oi listed) : listed.getD i true = false := (mem_ready.1 h.ready).1
theorem Early.waits (h : Early md ops B i oi listed) {j : Nat} {oj : Oper} (hj : j ∈ Region.ready md ops listed) (ho : ops[j]? = some oj) : ∀ e ∈ oj.after, Region.binds md e = true → e.on ≠ i :=
  fun e he hb heq => not_yet hj ho he hb (by rw [heq]; exact h.un)
theorem Early.out (h : Early md ops B i oi listed) (hw : Waits md ops B i) {j : Nat} (hj : j ∈ Region.ready md ops listed) : j ∉ B := fun hjB => by
  obtain ⟨_, oj, ho, _⟩ := mem_ready.1 hj
  obtain ⟨e, he, hb, hor⟩ := hw.2 j hjB oj ho
  rcases hor with h1 | h1
  · exact h.waits hj ho e he hb h1
  · exact not_yet hj ho he hb (h.late _ h1)
theorem Early.next (h : Early md ops B i oi listed) (hw : Waits md ops B i) {j : Nat} (hj : j ∈ Region.ready md ops listed) (hji : j ≠ i) : Early md ops B i oi (listed.setIfInBounds j true) where
  ready := ready_mono h.ready (Ne.symm hji)
  free k ok hk hki hun hno := h.free k ok hk hki (by
    by_cases e : j = k
    · exact e ▸ (mem_ready.1 hj).1
    · rwa [getD_set_ne true e] at hun) hno
  late b hb := by rw [getD_set_ne true (show ¬ j = b from fun e => h.out hw hj (by rw [e]; exact hb))]; exact h.late b hb
end
theorem wpAnyB_early {i : Nat} {oi : Oper} {v : Value} (hi : ops[i]? = some oi) (hsel : ∀ (j : Nat) (o : Oper) cs b, ops[j]? = some o → o.op ≠ .select cs b)
    (hQ : ∀ c a w, Q (.panic c) (a.put oi.dst v) w → Q (.panic c) a w) {B : List Nat} (hs : s ∈ B) (hw : Waits md ops B i) :
    ∀ (fuel : Nat) {listed : Array Bool} {a : Act} {w : World}, Early md ops B i oi listed → YieldsIf P ops T oi v a → T w →
      wpAnyB P md ops Q T s fuel (listed.setIfInBounds i true) (a.put oi.dst v) w → wpAnyB P md ops Q T s (fuel + 1) listed a w
  | fuel, listed, a, w, h, hy, hT, H => by
    refine ⟨fun h0 => absurd (h0 ▸ h.ready) (by simp), fun j hj => ?_⟩
    by_cases hji : j = i
    · exact hji ▸ hy.wpOp hi hT ⟨fun _ => hT, H⟩
    · match fuel, H with
      | 0, H => exact absurd (H.1 ▸ ready_mono hj hji) (by simp)
      | fuel + 1, H =>
        obtain ⟨hun, oj, ho, _⟩ := mem_ready.1 hj
        have step := wpOp_putIf ho (h.free j oj ho hji hun (h.waits hj ho)) (fun cs b => hsel i oi cs b hi) (fun cs b => hsel j oj cs b ho) hQ hy (H.2 j (ready_mono hj hji))
        have n := h.next hw hj hji
        refine wpOp_mono (fun a' w' k => ?_) step
        obtain ⟨k1, k2, k3⟩ := k
        rw [Array.setIfInBounds_comm _ _ (Ne.symm hji)] at k2 k3
        have hT' : T w' := k2 (by rw [getD_set_ne true (show ¬ i = s from fun e => hw.1 (by rw [e]; exact hs))]; exact n.late s hs)
        exact ⟨fun _ => hT', wpAnyB_early hi hsel hQ hs hw fuel n k1 hT' k3⟩
def waitsB (md : Region.Mode) (ops : Array Oper) (listed : Array Bool) (B : List Nat) (s i : Nat) : Bool :=
  B.contains s && !B.contains i && B.all fun b => !listed.getD b true && match ops[b]? with
    | some o => o.after.any fun e => Region.binds md e && (e.on == i || B.contains e.on)
    | none => false
theorem takeB (i : Nat) (d : Option Tmp) (B : List Nat) {oi : Oper} {v : Value} {fuel : Nat} {listed : Array Bool} {a : Act} {w : World} (hi : ops[i]? = some oi) (hd : oi.dst = d)
    (hs : Region.noSelect ops = true) (hf : Region.free md ops listed i = true) (hr : (Region.ready md ops listed).contains i = true) (hB : waitsB md ops listed B s i = true)
    (hQ : ∀ c a w, Q (.panic c) (a.put d v) w → Q (.panic c) a w) (hw : Region.wanted oi (yielded ops a.tmps) = true) (hy : ∀ w, T w → (execOp a.eval oi).run P w = .ok (.value v) w) (hT : T w)
    (h : wpAnyB P md ops Q T s fuel (listed.setIfInBounds i true) (a.put d v) w) : wpAnyB P md ops Q T s (fuel + 1) listed a w := by
  subst hd
  unfold waitsB at hB
  simp only [Bool.and_eq_true, List.contains_iff_mem, Bool.not_eq_true', List.all_eq_true] at hB
  obtain ⟨⟨h1, h2⟩, h3⟩ := hB
  have h2' : i ∉ B := fun hm => by rw [List.contains_iff_mem.2 hm] at h2; cases h2
  refine wpAnyB_early hi (Region.noSelect_spec hs) hQ h1 ⟨h2', fun b hb o ho => ?_⟩ fuel ⟨by simpa using hr, Region.free_spec hi hf, fun b hb => (h3 b hb).1⟩ (.inl ⟨hw, hy⟩) hT h
  have := (h3 b hb).2
  rw [ho] at this
  obtain ⟨k, hk, he⟩ := Array.any_eq_true.1 this
  simp only [Bool.and_eq_true, Bool.or_eq_true, beq_iff_eq, List.contains_iff_mem] at he
  exact ⟨o.after[k], Array.getElem_mem hk, he.1, he.2⟩
theorem oneB (i : Nat) {fuel : Nat} {listed : Array Bool} {a : Act} {w : World} (hr : Region.ready md ops listed = [i])
    (h : wpOp P ops Q i (fun a' w' => ((listed.setIfInBounds i true).getD s true = false → T w') ∧ wpAnyB P md ops Q T s fuel (listed.setIfInBounds i true) a' w') a w) : wpAnyB P md ops Q T s (fuel + 1) listed a w :=
  ⟨fun h0 => absurd (hr ▸ h0) (by simp), fun j hj => by rw [hr] at hj; obtain rfl := List.mem_singleton.1 hj; exact h⟩
theorem doneB {listed : Array Bool} {a : Act} {w : World} (hr : Region.ready md ops listed = []) (h : Q .normal a w) : ∀ fuel, wpAnyB P md ops Q T s fuel listed a w
  | 0 => ⟨hr, h⟩
  | _ + 1 => ⟨fun _ => h, by rw [hr]; simp⟩
theorem wp_region_bar {id : Nat} {a : Act} {w : World} (hm : P.follows .mixedOrders = true)
    (h : wpAnyB P .any ops Q T s ops.size (Array.replicate ops.size false) a { w with drawn := w.drawn + 1 }) : (Code.region id ops true).wp P Q a w :=
  wp_region_any hm (wpAny_of_bar _ _ _ _ h)
theorem wpIn_region_barR {n : Nat} {r : Option Nat} {F : Fence} (hF : F = wideR r) {id : Nat} {a : Act} {w : World} (hm : P.follows .mixedOrders = true) (hd : noDefer ops = true) (hq : ∀ a w, ¬ Q .outgrown a w)
    (h : wpAnyB P .any ops Q T s ops.size (Array.replicate ops.size false) a { w with drawn := w.drawn + 1 }) : (Code.region id ops true).wpIn F n P Q a w := by
  subst hF
  exact wpIn_region_any hm (anyIn_of_any hd hq _ _ _ _ (wpAny_of_bar _ _ _ _ h))
end
end Go.Proofs.YtlinmcgmkpkpaaaDoor.Held
namespace Go.Proofs.YtlinmcgmkpkpaaaDoor.Bi
open Go.RowKit Go.Shelf Go.Proofs.YtlinmcgmkpkpaaaDoor Mem Held Go.Proofs.YtlinmcgmkpkpaaaDoor.Range
attribute [local go_sem] Oper.semAt_some
attribute [local irreducible] wpList wpListIn Calls
theorem own_obj {w : World} {base : Nat} {t : TypeId} {k : IntKind} {v : Value} {zs : List Int} (h : Mem.Own w base t k v zs) {b : Nat} (e : v.ownBlock = some b) : ∃ cs fz, w.heap[b]? = some (.cells cs t fz) := by
  rcases h.2.2 with ⟨rfl, _⟩ | ⟨g, cap, cur, rfl, hb, hg, _⟩
  · simp [Value.ownBlock] at e
  · simp [Value.ownBlock] at e
    subst e
    exact ⟨_, _, hg⟩
theorem own_ne {w : World} {base : Nat} {t : TypeId} {k : IntKind} {v : Value} {zs : List Int} (h : Mem.Own w base t k v zs) {row : Option Nat} (hr : ∀ r, row = some r → ∃ o : Obj, w.heap[r]? = some o ∧ o.isCells = false) : v.ownBlock = none ∨ v.ownBlock ≠ row := by
  cases hq : v.ownBlock with
  | none => exact .inl rfl
  | some b =>
    refine .inr fun e => ?_
    obtain ⟨o, ho, hc⟩ := hr b e.symm
    obtain ⟨cs, fz, h2⟩ := own_obj h hq
    rw [h2] at ho
    cases ho
    cases hc
structure Two (w V : World) (B gx gy : Nat) (ux uy vx vy : Value) (xs ys : List Int) (W : World) : Prop where
  lx : gx < B
  ly : gy < B
  ne : gx ≠ gy
  hx : w.heap.size ≤ gx
  hy : w.heap.size ≤ gy
  cx : W.heap[gx]? = some (.cells #[ux] 53 (0, 0))
  cy : W.heap[gy]? = some (.cells #[uy] 53 (0, 0))
  ox : Mem.Own W B 3 .i64 vx xs
  oy : Mem.Own W B 3 .i64 vy ys
  ap : ∀ b, vx.ownBlock = some b → vy.ownBlock ≠ some b
  low : ∀ b, b < B → b ≠ gx → b ≠ gy → W.heap[b]? = V.heap[b]?
  bel : Below w.heap.size w W
  sz : B ≤ W.heap.size
section
variable {w V W W' : World} {B gx gy : Nat} {ux uy vx vy : Value} {xs ys : List Int}
theorem Two.keep (h : Two w V B gx gy ux uy vx vy xs ys W) {row : Option Nat} (hg : W.grownBy W' row) (hr : ∀ r, row = some r → B ≤ r ∧ ∃ o : Obj, W.heap[r]? = some o ∧ o.isCells = false) : Two w V B gx gy ux uy vx vy xs ys W' := by
  have hne : ∀ i, i < B → some i ≠ row := fun i hi e => by have := (hr i e.symm).1; omega
  have hr2 := fun r e => (hr r e).2
  refine ⟨h.lx, h.ly, h.ne, h.hx, h.hy, Held.keep_cells h.cx hg (hne _ h.lx), Held.keep_cells h.cy hg (hne _ h.ly), h.ox.kept hg (own_ne h.ox hr2), h.oy.kept hg (own_ne h.oy hr2), h.ap, fun b hb h1 h2 => ?_, h.bel.grown hg (by have := h.sz; have := h.hx; have := h.lx; omega) (fun r e => by have := (hr r e).1; have := h.hx; have := h.lx; omega), Nat.le_trans h.sz hg.size⟩
  exact (hg.block b (Nat.lt_of_lt_of_le hb h.sz) (hne b hb)).trans (h.low b hb h1 h2)
theorem Two.after (h : Two w V B gx gy ux uy vx vy xs ys W) (hb : Below W.heap.size W W') : Two w V B gx gy ux uy vx vy xs ys W' := h.keep (grown_of_below hb none) (fun r e => by cases e)
end
section
variable {P : Program} {ops : Array Oper} {Q : Exit → Act → World → Prop}
end
theorem wf_i64 {z : Int} (h : -9223372036854775808 ≤ z) (h' : z ≤ 9223372036854775807) : (Lit.int .i64 z).wf = true := by simp [Lit.wf, IntKind.min, IntKind.max, IntKind.signed, IntKind.bits]; omega
end Go.Proofs.YtlinmcgmkpkpaaaDoor.Bi
namespace Go.Proofs.YtlinmcgmkpkpaaaDoor.Bi
open Go.RowKit Go.Shelf Go.Proofs.YtlinmcgmkpkpaaaDoor Mem Held Go.Proofs.YtlinmcgmkpkpaaaDoor.Range
attribute [local go_sem] Oper.semAt_some
attribute [local irreducible] wpList wpListIn Calls
def xsOf (l : List Nat) : List Int := l.map fun (a : Nat) => (a : Int)
def ysOf (t : Nat) (l : List Nat) : List Int := l.map fun (a : Nat) => (a : Int) + 2 ^ (t - 1)
def I2 (w V : World) (B gx gy t : Nat) (pre : List Nat) (W : World) : Prop := ∃ vx vy, Two w V B gx gy vx vy vx vy (xsOf pre) (ysOf t pre) W
theorem I2.from (w V : World) (B gx gy t : Nat) : OwnFrom B (I2 w V B gx gy t) := fun pre W W' row h hg hr => by
  obtain ⟨vx, vy, h⟩ := h
  exact ⟨vx, vy, h.keep hg hr⟩
end Go.Proofs.YtlinmcgmkpkpaaaDoor.Bi
namespace Go.Proofs.YtlinmcgmkpkpaaaDoor.Bi
open Go.RowKit Go.Shelf Go.Proofs.YtlinmcgmkpkpaaaDoor Mem Held Help Go.Proofs.YtlinmcgmkpkpaaaDoor.Range
attribute [local go_sem] Oper.semAt_some
attribute [local irreducible] wpList wpListIn Calls
end Go.Proofs.YtlinmcgmkpkpaaaDoor.Bi
namespace Go.Proofs.YtlinmcgmkpkpaaaDoor.Bi
open Go.RowKit Go.Shelf Go.Proofs.YtlinmcgmkpkpaaaDoor Mem Held Help Go.Proofs.YtlinmcgmkpkpaaaDoor.Range
attribute [local go_sem] Oper.semAt_some
attribute [local irreducible] wpList wpListIn Calls
section
variable {P : Program} {S : World → Prop} {ρ : Operand → Value} {o : Oper} {t ty : TypeId} {x y : Operand} {k k' : IntKind} {r : Int}
theorem y_quo (a b : Int) (ho : o.op = .binOp .quo t x y ty) (hx : ρ x = .int k a) (hy : ρ y = .int k b) (hr : ∀ w : World, (binOp .quo t (.int k a) (.int k b)).run P w = .ok (.int k r) w) : ∀ w, S w → (execOp ρ o).run P w = .ok (.value (.int k r)) w := Held.y_int ho hx hy hr
theorem y_rem (a b : Int) (ho : o.op = .binOp .rem t x y ty) (hx : ρ x = .int k a) (hy : ρ y = .int k b) (hr : ∀ w : World, (binOp .rem t (.int k a) (.int k b)).run P w = .ok (.int k r) w) : ∀ w, S w → (execOp ρ o).run P w = .ok (.value (.int k r)) w := Held.y_int ho hx hy hr
theorem y_sub (a b : Int) (ho : o.op = .binOp .sub t x y ty) (hx : ρ x = .int k a) (hy : ρ y = .int k b) (hr : k.wrap (a - b) = r) : ∀ w, S w → (execOp ρ o).run P w = .ok (.value (.int k r)) w := Held.y_int ho hx hy (Held.run_sub t k hr)
end
theorem rem_of {a : Int} (ha : 0 ≤ a) : a.tmod 2 = a % 2 := Int.tmod_eq_emod_of_nonneg ha
end Go.Proofs.YtlinmcgmkpkpaaaDoor.Bi
namespace Go.Proofs.YtlinmcgmkpkpaaaDoor.Mg
open Go.RowKit Go.Shelf Go.Proofs.YtlinmcgmkpkpaaaDoor Mem Held Go.Proofs.YtlinmcgmkpkpaaaDoor.Range
attribute [local go_sem] Oper.semAt_some
attribute [local irreducible] wpList wpListIn Calls
theorem other_any (f n : Int) (w : World) :
    Calls Tryd.prog 71 #[.int .i64 f, .int .i64 n] w fun e w' => ∃ bf bn : Nat, e = .returned (.func (.func 90) #[] #[.pointer (some ⟨bn, 0, none⟩), .pointer (some ⟨bf, 0, none⟩)]) ∧ Blk w' bf 3 #[.int .i64 f] ∧ Blk w' bn 3 #[.int .i64 n] ∧ w.heap.size ≤ bf ∧ w.heap.size ≤ bn ∧ Below w.heap.size w w' := by
  go_enter Tryd.func71, Tryd.ntmps71
  go_wp2_with (first
    | (refine Held.wpList_box_cell (w := w) rfl 3 _ rfl (.int .i64 f) rfl rfl ?_; intro w1 q1 g1 z1)
    | (refine Held.wpList_box_cell (w := w1) rfl 3 _ rfl (.int .i64 n) rfl rfl ?_; intro w2 q2 g2 z2))
  have q1 := Blk.grown q1 g2 (by simp)
  go_ret
  exact ⟨_, _, rfl, q1, q2, Nat.le_refl _, g1.size, ((Below.refl _ w).grown g1 (Nat.le_refl _) (by simp)).grown g2 g1.size (by simp)⟩
def atP (f n : Nat) (k : Nat) : Option Nat := if f + 2 * k < n then some (f + 2 * k) else none
def encP (x : Nat) : Array Value := #[.int .i64 (x : Int)]
theorem atP_some {f n k x : Nat} (h : atP f n k = some x) : x = f + 2 * k ∧ f + 2 * k < n := by
  unfold atP at h
  split at h
  · rename_i hk
    injection h with h
    exact ⟨h.symm, hk⟩
  · cases h
theorem atP_none {f n k : Nat} (h : atP f n k = none) : n ≤ f + 2 * k := by
  unfold atP at h
  split at h
  · cases h
  · omega
set_option maxRecDepth 100000 in
set_option maxHeartbeats 4000000 in
theorem places_stop (N bn bf : Nat) (S : Nat → Prop) (f n : Nat) (w : World) (hf : f ≤ 1) (hn : n ≤ 1073741824) (hbn : w.cell? ⟨bn, 0, none⟩ = some (.int .i64 (n : Int))) (hbf : w.cell? ⟨bf, 0, none⟩ = some (.int .i64 (f : Int))) (hSn : ¬ S bn) (hSf : ¬ S bf) :
    SeqStop Fence.wide N Tryd.prog 90 #[.pointer (some ⟨bn, 0, none⟩), .pointer (some ⟨bf, 0, none⟩)] encP (Only S) (atP f n) w := by
  intro l J Jx Nb W hW hJ hJx hN hY h0
  have kbn := (hW.cell (p := ⟨bn, 0, none⟩) (World.block_lt_of_cell? w _ hbn)).trans hbn
  have kbf := (hW.cell (p := ⟨bf, 0, none⟩) (World.block_lt_of_cell? w _ hbf)).trans hbf
  clear hbn hbf hW hJx
  refine callsIn_of_wp Tryd.func90 rfl trivial ?_ rfl
  simp only [Tryd.ntmps90, List.size_toArray, List.length_cons, List.length_nil, Nat.reduceAdd, Nat.reduceSub, Array.replicate_succ, Array.replicate_zero, List.push_toArray, List.append_toArray, List.nil_append, List.cons_append]
  gi_wp2_with fail
  gi_loopw [6] (fun i wr => ∃ p : Nat, p ≤ n ∧ i = .int .i64 p ∧ J ((p + 1 - f) / 2) wr ∧ Only S W wr) (fun i _ => n - (intOf i).toNat)
  case atStart => exact ⟨0, by omega, rfl, by rw [show (0 + 1 - f) / 2 = 0 by omega]; exact h0, Only.refl _ _⟩
  case round =>
    obtain ⟨p, hp, rfl, Jk, ok⟩ := hrel
    by_cases hlt : p < n
    · have kf := ok.cell (p := ⟨bf, 0, none⟩) hSf kbf
      have hlt' : (p : Int) < (n : Int) := by omega
      obtain ⟨r, hr⟩ : ∃ r, p % 2 = r := ⟨_, rfl⟩
      have hmod : ((p : Int)).tmod 2 = (r : Int) := by rw [Bi.rem_of (by omega)]; omega
      have hm := fun W => Held.run_rem (P := Tryd.prog) 3 .i64 (a := (p : Int)) (b := 2) (r := (r : Int)) (by omega) hmod W
      by_cases hb : r = f
      · have hk : f + 2 * ((p + 1 - f) / 2) = p := by omega
        have hYk := hY ((p + 1 - f) / 2) p wr Jk (by unfold atP; rw [hk, if_pos hlt])
        have hnx : (p + 1 - f) / 2 + 1 = (p + 1 + 1 - f) / 2 := by omega
        rw [hnx] at hYk
        obtain ⟨fn, tmps, assign, body, hy, hR⟩ := hYk
        have hy : (Instr.yield l #[.int .i64 (p : Int)]).run Tryd.prog wr = .ok (.round l fn tmps assign body) wr := hy
        clear hY hN hnx hk hmod hr
        subst hb
        gi_wp2_with (first
          | (refine Held.wpListIn_one (r := none) rfl (by intro c e; cases e) ?_; refine Held.wpList_run (w := wr) rfl (v := .int .i64 (r : Int)) (Bi.y_rem (S := fun _ => True) (p : Int) 2 rfl rfl rfl hm _ trivial) ?_; refine wpList_nil ⟨rfl, ?_⟩))
        refine ⟨fun h => (by cases h), ?_⟩
        refine hR.mono ?_
        rintro e W4 (⟨rfl, J4, o4⟩ | ⟨rfl, Jx4⟩)
        · have o5 := ok.trans o4
          clear hR hy o4 ok Jk
          gi_wp2_with fail
          go_roundw
          case rel => exact ⟨p + 1, by omega, by go_num, J4, o5⟩
          case measure => simp [intOf]; omega
        · gi_wp2_with fail
          exact bodyPost_ret (results_none rfl _ _ _) rfl ⟨⟨_, rfl⟩, .inr ⟨_, Jx4⟩⟩
      · have hnx : (p + 1 - f) / 2 = (p + 1 + 1 - f) / 2 := by omega
        rw [hnx] at Jk
        have hb' : ¬ (r : Int) = (f : Int) := by omega
        have hqf : decide ((r : Int) = (f : Int)) = false := by simp; omega
        clear hY hN hnx hmod hr hb hb'
        gi_wp2_with (first
          | (refine Held.wpListIn_one (r := none) rfl (by intro c e; cases e) ?_; refine Held.wpList_run (w := wr) rfl (v := .int .i64 (r : Int)) (Bi.y_rem (S := fun _ => True) (p : Int) 2 rfl rfl rfl hm _ trivial) ?_; refine wpList_nil ⟨rfl, ?_⟩)
          | (refine Held.wpListIn_one (r := none) rfl (by intro c e; cases e) ?_; refine Held.wpList_run (w := wr) rfl (v := .bool false) (Held.y_eqI (S := fun _ => True) rfl rfl rfl hqf _ trivial) ?_; refine wpList_nil ⟨rfl, ?_⟩; simp only [Act.put, Z1, Z2, Z3]))
        refine ⟨fun _ h => (by cases h), ?_⟩
        gi_wp2_with fail
        try refine ⟨fun _ h => (by cases h), ?_⟩
        gi_wp2_with fail
        go_roundw
        case rel => exact ⟨p + 1, by omega, by go_num, Jk, ok⟩
        case measure => simp [intOf]; omega
    · have hpn : p = n := by omega
      subst hpn
      gi_wp2_with fail
      go_end0
      exact ⟨⟨_, rfl⟩, .inl ⟨(p + 1 - f) / 2, by unfold atP; rw [if_neg (by omega)], Jk⟩⟩
end Go.Proofs.YtlinmcgmkpkpaaaDoor.Mg
namespace Go.Proofs.YtlinmcgmkpkpaaaDoor.Mg
open Go.RowKit Go.Shelf Go.Proofs.YtlinmcgmkpkpaaaDoor Mem Held Ct Rc Rs Sl
attribute [local irreducible] wpList wpListIn Calls
theorem rec_one (x : R) : ∀ u ∈ x.cells, u.oneCell' = true := fun u hu => by
  simp only [R.cells, List.mem_cons, List.not_mem_nil, or_false] at hu
  rcases hu with rfl | rfl | rfl | rfl <;> rfl
def kRec : St R := ⟨4, R.cells, R.wf, R0, fun _ => rfl, rec_one, by omega⟩
theorem info_kRec : (Tryd.prog.info? 51).map (fun i => (i.zero, i.size, i.bytes)) = some (some (.agg (kRec.cells kRec.d).toArray), kRec.s, 32) := by kernel_rfl
set_option maxRecDepth 100000 in
set_option maxHeartbeats 4000000 in
theorem leads_any (seq : Bool) (a b : R) (ha : a.wf) (hb : b.wf) (w : World) :
    Calls Tryd.prog 91 #[.agg #[.bool a.d, .int .i64 a.k, .int .i64 a.v, .int .i64 a.s], .agg #[.bool b.d, .int .i64 b.k, .int .i64 b.v, .int .i64 b.s], .bool seq] w fun e w' => e = .returned (.int .u64 (oneI (lead seq a b))) ∧ Below w.heap.size w w' := by
  go_enter Tryd.func91, Tryd.ntmps91
  cases seq with
  | true =>
    go_wp2_with (first
      | (refine wpList_box_blk (w := w) rfl 51 _ rfl _ rfl ?_; intro w1 q1 g1 z1)
      | (refine wpList_box_blk (w := w1) rfl 51 _ rfl _ rfl ?_; intro w2 q2 g2 z2; have q1 := q1.grown g2 (by simp))
      | (refine wpList_load_blk (w := w2) rfl 51 _ rfl w.heap.size 4 rfl 51 _ q1 _ Tryd.underlying51 rfl (by kernel_rfl) rfl ?_)
      | (refine wpList_load_blk (w := w2) rfl 51 _ rfl w1.heap.size 4 rfl 51 _ q2 _ Tryd.underlying51 rfl (by kernel_rfl) rfl ?_))
    have b2 : Below w.heap.size w w2 := ((Below.refl _ w).grown g1 (Nat.le_refl _) (by simp)).grown g2 g1.size (by simp)
    refine (before_any a.d a.k a.v a.s b.d b.k b.v b.s ha.1 ha.2.2 hb.1 hb.2.2 _).mono ?_
    rintro e w3 ⟨rfl, b3⟩
    go_wp2_with fail
    go_ret
    exact ⟨rfl, b2.trans (b3.mono b2.size)⟩
  | false =>
    go_wp2_with (first
      | (refine wpList_box_blk (w := w) rfl 51 _ rfl _ rfl ?_; intro w1 q1 g1 z1)
      | (refine wpList_box_blk (w := w1) rfl 51 _ rfl _ rfl ?_; intro w2 q2 g2 z2; have q1 := q1.grown g2 (by simp))
      | (refine wpList_load_blk (w := w2) rfl 51 _ rfl w.heap.size 4 rfl 51 _ q1 _ Tryd.underlying51 rfl (by kernel_rfl) rfl ?_)
      | (refine wpList_load_blk (w := w2) rfl 51 _ rfl w1.heap.size 4 rfl 51 _ q2 _ Tryd.underlying51 rfl (by kernel_rfl) rfl ?_))
    have b2 : Below w.heap.size w w2 := ((Below.refl _ w).grown g1 (Nat.le_refl _) (by simp)).grown g2 g1.size (by simp)
    refine (ahead_any a.d a.k a.v a.s b.d b.k b.v b.s ha.1 ha.2.2 hb.1 hb.2.2 _).mono ?_
    rintro e w3 ⟨rfl, b3⟩
    go_wp2_with fail
    go_ret
    exact ⟨rfl, b2.trans (b3.mono b2.size)⟩
theorem getD_mem {rs : List R} {i : Nat} (hi : i < rs.length) : rs.getD i R0 ∈ rs := by
  rw [List.getD_eq_getElem?_getD, List.getElem?_eq_getElem hi]
  exact List.getElem_mem hi
set_option maxRecDepth 100000 in
set_option maxHeartbeats 8000000 in
theorem settle_any (seq : Bool) (base g n c p : Nat) (rs : List R) (w : World) (h : OwnL kRec 51 w base (.slice (some ⟨g, 0, none⟩) n c) rs) (hwf : ∀ r ∈ rs, r.wf) (hp : p + 1 < n) (hn : n ≤ 1073741824) :
    Calls Tryd.prog 72 #[.slice (some ⟨g, 0, none⟩) n c, .int .i64 (p : Int), .bool seq] w fun e w' => (∃ v, e = .returned v) ∧ OwnL kRec 51 w' base (.slice (some ⟨g, 0, none⟩) n c) (settleR seq rs p) ∧ w.grownBy w' (some g) := by
  have hl := OwnL.lst h hwf
  have hp0 : p < n := by omega
  obtain ⟨b, off, e1, hg, hx⟩ := hl.at_ hp0
  injection e1 with e1
  injection e1 with e1 e2
  subst e1
  subst e2
  obtain ⟨b, off, e1, _, hy⟩ := hl.at_ hp
  injection e1 with e1
  injection e1 with e1 e2
  subst e1
  subst e2
  have hx : w.rangeAt g (0 + p * 4) (rs.getD p R0).cells := hx
  have hy : w.rangeAt g (0 + (p + 1) * 4) (rs.getD (p + 1) R0).cells := hy
  have hL := hl.1
  have wa := hwf _ (getD_mem (rs := rs) (i := p) (by omega))
  have wb := hwf _ (getD_mem (rs := rs) (i := p + 1) (by omega))
  have HSET := Lib.hid (show settleR seq rs p = (rs.set p (if lead seq (rs.getD (p + 1) R0) (rs.getD p R0) then rs.getD (p + 1) R0 else rs.getD p R0)).set (p + 1) (if lead seq (rs.getD (p + 1) R0) (rs.getD p R0) then rs.getD p R0 else rs.getD (p + 1) R0) from rfl)
  have HP1 := Lib.hid (show IntKind.i64.wrap ((p : Int) + 1) = ((p + 1 : Nat) : Int) by rw [IntKind.wrap_i64]; omega)
  have HLP := Lib.hid (show p < rs.length by omega)
  have HLQ := Lib.hid (show p + 1 < rs.length by omega)
  generalize rs.getD p R0 = ra at hx HSET wa
  generalize rs.getD (p + 1) R0 = rb at hy HSET wb
  clear hl hL
  go_enter Tryd.func72, Tryd.ntmps72
  go_wp2_with fail
  refine wp_mono (Q := fun e a' w' => e = .normal ∧ ∃ p6 p7, a' = { tmps := #[.slice (some ⟨g, 0, none⟩) n c, .int .i64 (p : Int), .bool seq, undef, undef, undef, .pointer (some ⟨p6, 0, none⟩), .pointer (some ⟨p7, 0, none⟩), undef, .slice (some ⟨g, 0, none⟩) n c, .int .i64 (p : Int), .pointer (some ⟨g, 0 + p * 4, none⟩), .agg #[.bool ra.d, .int .i64 ra.k, .int .i64 ra.v, .int .i64 ra.s], .slice (some ⟨g, 0, none⟩) n c, .int .i64 (p : Int), .int .i64 ((p + 1 : Nat) : Int), .pointer (some ⟨g, 0 + (p + 1) * 4, none⟩), .agg #[.bool rb.d, .int .i64 rb.k, .int .i64 rb.v, .int .i64 rb.s], undef, undef, undef, undef, undef, undef, undef, undef, undef, undef, undef, undef, undef, undef, undef, undef, undef, undef, undef], defers := [] } ∧ Blk w' p6 51 #[.bool ra.d, .int .i64 ra.k, .int .i64 ra.v, .int .i64 ra.s] ∧ Blk w' p7 51 #[.bool rb.d, .int .i64 rb.k, .int .i64 rb.v, .int .i64 rb.s] ∧ p6 ≠ p7 ∧ w.heap.size ≤ p6 ∧ w.heap.size ≤ p7 ∧ Below w.heap.size w w') ?_ ?_
  · refine wp_region_held (S := fun W => Below w.heap.size w W) (by kernel_rfl) ?_
    change wpAnyH _ _ _ _ _ _ _ _ w.drew
    have c0_0 := (Below.refl w.heap.size w).drew
    refine Held.take (v := .slice (some ⟨g, 0, none⟩) n c) 0 (some 9) rfl rfl (by kernel_rfl) (by kernel_rfl) (by kernel_rfl) (fun _ _ _ h => by cases h.1) rfl (Held.y_move rfl rfl) c0_0 ?_
    simp only [Act.put, Z1, Z2, Z3]
    refine Held.take (v := .int .i64 (p : Int)) 1 (some 10) rfl rfl (by kernel_rfl) (by kernel_rfl) (by kernel_rfl) (fun _ _ _ h => by cases h.1) rfl (Held.y_move rfl rfl) c0_0 ?_
    simp only [Act.put, Z1, Z2, Z3]
    refine Held.take (v := .pointer (some ⟨g, 0 + p * 4, none⟩)) 2 (some 11) rfl rfl (by kernel_rfl) (by kernel_rfl) (by kernel_rfl) (fun _ _ _ h => by cases h.1) rfl (Held.y_addr rfl rfl rfl (run_addr_of 48 51 g 0 n c p 4 .i64 Tryd.underlying48 (by kernel_rfl) hp0)) c0_0 ?_
    simp only [Act.put, Z1, Z2, Z3]
    refine Held.take (v := .agg #[.bool ra.d, .int .i64 ra.k, .int .i64 ra.v, .int .i64 ra.s]) 3 (some 12) rfl rfl (by kernel_rfl) (by kernel_rfl) (by kernel_rfl) (fun _ _ _ h => by cases h.1) rfl (y_load_range (n := 4) (cs := ra.cells) rfl rfl Tryd.underlying51 rfl (by kernel_rfl) rfl (fun W hW => range_below hx hW hg)) c0_0 ?_
    simp only [Act.put, Z1, Z2, Z3]
    refine Held.take (v := .slice (some ⟨g, 0, none⟩) n c) 4 (some 13) rfl rfl (by kernel_rfl) (by kernel_rfl) (by kernel_rfl) (fun _ _ _ h => by cases h.1) rfl (Held.y_move rfl rfl) c0_0 ?_
    simp only [Act.put, Z1, Z2, Z3]
    refine Held.take (v := .int .i64 (p : Int)) 5 (some 14) rfl rfl (by kernel_rfl) (by kernel_rfl) (by kernel_rfl) (fun _ _ _ h => by cases h.1) rfl (Held.y_move rfl rfl) c0_0 ?_
    simp only [Act.put, Z1, Z2, Z3]
    refine Held.take (v := .int .i64 ((p + 1 : Nat) : Int)) 6 (some 15) rfl rfl (by kernel_rfl) (by kernel_rfl) (by kernel_rfl) (fun _ _ _ h => by cases h.1) rfl (Held.y_int rfl rfl rfl (Held.run_add 3 .i64 HP1.out)) c0_0 ?_
    simp only [Act.put, Z1, Z2, Z3]
    refine Held.take (v := .pointer (some ⟨g, 0 + (p + 1) * 4, none⟩)) 7 (some 16) rfl rfl (by kernel_rfl) (by kernel_rfl) (by kernel_rfl) (fun _ _ _ h => by cases h.1) rfl (Held.y_addr rfl rfl rfl (run_addr_of 48 51 g 0 n c (p + 1) 4 .i64 Tryd.underlying48 (by kernel_rfl) hp)) c0_0 ?_
    simp only [Act.put, Z1, Z2, Z3]
    refine Held.take (v := .agg #[.bool rb.d, .int .i64 rb.k, .int .i64 rb.v, .int .i64 rb.s]) 8 (some 17) rfl rfl (by kernel_rfl) (by kernel_rfl) (by kernel_rfl) (fun _ _ _ h => by cases h.1) rfl (y_load_range (n := 4) (cs := rb.cells) rfl rfl Tryd.underlying51 rfl (by kernel_rfl) rfl (fun W hW => range_below hy hW hg)) c0_0 ?_
    simp only [Act.put, Z1, Z2, Z3]
    refine Held.two 9 10 (by kernel_rfl) ?_ ?_
    · refine op_alloc_blk 9 (some 6) 51 _ rfl rfl rfl rfl zero_rec ?_
      intro p6 w1 r6 b1 h6
      have q6 := Nat.le_trans c0_0.size h6.out
      have c0_1 := c0_0.trans (b1.mono c0_0.size)
      refine ⟨c0_1, ?_⟩
      simp only [Act.put, Z1, Z2, Z3]
      refine Held.one 10 (by kernel_rfl) ?_
      refine op_alloc_blk 10 (some 7) 51 _ rfl rfl rfl rfl zero_rec ?_
      intro p7 w2 r7 b2 h7
      have q7 := Nat.le_trans c0_1.size h7.out
      have c0_2 := c0_1.trans (b2.mono c0_1.size)
      have n67 : p6 ≠ p7 := fun x => by have := r6.lt; have := h7.out; omega
      have r6 := r6.after b2
      refine ⟨c0_2, ?_⟩
      simp only [Act.put, Z1, Z2, Z3]
      refine Held.one 11 (by kernel_rfl) ?_
      refine op_store_blk 11 none 51 p6 4 51 _ #[.bool ra.d, .int .i64 ra.k, .int .i64 ra.v, .int .i64 ra.s] rfl rfl rfl rfl rfl rfl r6 info_rec rfl rfl (by kernel_rfl) ?_
      intro w3 r6 g3
      have c0_3 := c0_2.grown g3 c0_2.size (fun r e => by cases e; exact q6)
      have r7 := r7.grown g3 (by intro e; injection e with e; exact n67 e.symm)
      refine ⟨c0_3, ?_⟩
      simp only [Act.put]
      refine Held.one 12 (by kernel_rfl) ?_
      refine op_store_blk 12 none 51 p7 4 51 _ #[.bool rb.d, .int .i64 rb.k, .int .i64 rb.v, .int .i64 rb.s] rfl rfl rfl rfl rfl rfl r7 info_rec rfl rfl (by kernel_rfl) ?_
      intro w4 r7 g4
      have c0_4 := c0_3.grown g4 c0_3.size (fun r e => by cases e; exact q7)
      have r6 := r6.grown g4 (by intro e; injection e with e; exact n67 e)
      refine ⟨c0_4, ?_⟩
      simp only [Act.put]
      refine wpAnyH_done (by kernel_rfl) ?_ _
      exact ⟨rfl, p6, p7, rfl, r6, r7, n67, q6, q7, c0_4⟩
    · refine op_alloc_blk 10 (some 7) 51 _ rfl rfl rfl rfl zero_rec ?_
      intro p7 w1 r7 b1 h7
      have q7 := Nat.le_trans c0_0.size h7.out
      have c0_1 := c0_0.trans (b1.mono c0_0.size)
      refine ⟨c0_1, ?_⟩
      simp only [Act.put, Z1, Z2, Z3]
      refine Held.one 9 (by kernel_rfl) ?_
      refine op_alloc_blk 9 (some 6) 51 _ rfl rfl rfl rfl zero_rec ?_
      intro p6 w2 r6 b2 h6
      have q6 := Nat.le_trans c0_1.size h6.out
      have c0_2 := c0_1.trans (b2.mono c0_1.size)
      have n67 : p6 ≠ p7 := fun x => by have := r7.lt; have := h6.out; omega
      have r7 := r7.after b2
      refine ⟨c0_2, ?_⟩
      simp only [Act.put, Z1, Z2, Z3]
      refine Held.one 11 (by kernel_rfl) ?_
      refine op_store_blk 11 none 51 p6 4 51 _ #[.bool ra.d, .int .i64 ra.k, .int .i64 ra.v, .int .i64 ra.s] rfl rfl rfl rfl rfl rfl r6 info_rec rfl rfl (by kernel_rfl) ?_
      intro w3 r6 g3
      have c0_3 := c0_2.grown g3 c0_2.size (fun r e => by cases e; exact q6)
      have r7 := r7.grown g3 (by intro e; injection e with e; exact n67 e.symm)
      refine ⟨c0_3, ?_⟩
      simp only [Act.put]
      refine Held.one 12 (by kernel_rfl) ?_
      refine op_store_blk 12 none 51 p7 4 51 _ #[.bool rb.d, .int .i64 rb.k, .int .i64 rb.v, .int .i64 rb.s] rfl rfl rfl rfl rfl rfl r7 info_rec rfl rfl (by kernel_rfl) ?_
      intro w4 r7 g4
      have c0_4 := c0_3.grown g4 c0_3.size (fun r e => by cases e; exact q7)
      have r6 := r6.grown g4 (by intro e; injection e with e; exact n67 e)
      refine ⟨c0_4, ?_⟩
      simp only [Act.put]
      refine wpAnyH_done (by kernel_rfl) ?_ _
      exact ⟨rfl, p6, p7, rfl, r6, r7, n67, q6, q7, c0_4⟩
  rintro e a' wz ⟨rfl, p6, p7, rfl, r6, r7, n67, q6, q7, bz⟩
  have hz := OwnL.below h bz
  have gz : w.grownBy wz (some g) := grown_of_below bz _
  clear h hx hy
  go_wp2_with (first
    | (refine wpList_load_blk (w := wz) rfl 51 _ rfl p7 4 rfl 51 _ r7 _ Tryd.underlying51 rfl (by kernel_rfl) rfl ?_)
    | (refine wpList_load_blk (w := wz) rfl 51 _ rfl p6 4 rfl 51 _ r6 _ Tryd.underlying51 rfl (by kernel_rfl) rfl ?_))
  refine (leads_any seq rb ra wb wa _).mono ?_
  rintro e w1 ⟨rfl, b1⟩
  have r6 := r6.after b1
  have r7 := r7.after b1
  have hz := OwnL.below hz b1
  have gz : w.grownBy w1 (some g) := Lib.grownBy_trans gz (grown_of_below b1 _)
  have g6 : p6 ≠ g := by omega
  have g7 : p7 ≠ g := by omega
  clear b1 bz
  cases hs : lead seq rb ra with
  | true =>
    rw [hs] at HSET
    have HSET := Lib.hid (show settleR seq rs p = (rs.set p rb).set (p + 1) ra from HSET.out)
    clear hs
    go_wp2_with (first
      | (refine wpList_load_blk (w := w1) rfl 51 _ rfl p7 4 rfl 51 _ r7 _ Tryd.underlying51 rfl (by kernel_rfl) rfl ?_)
      | (refine wpList_load_blk (w := w1) rfl 51 _ rfl p6 4 rfl 51 _ r6 _ Tryd.underlying51 rfl (by kernel_rfl) rfl ?_))
    refine (pick_any 1 rb.d rb.k rb.v rb.s ra.d ra.k ra.v ra.s rfl wb.1 wb.2.1 wb.2.2 wa.1 wa.2.1 wa.2.2 _).mono ?_
    rintro e w2 ⟨rfl, b2⟩
    have r6 := r6.after b2
    have r7 := r7.after b2
    have hz := OwnL.below hz b2
    have gz : w.grownBy w2 (some g) := Lib.grownBy_trans gz (grown_of_below b2 _)
    clear b2
    go_wp2_with (first
      | (refine Held.wpList_run (w := w2) rfl (v := .pointer (some ⟨g, 0 + p * 4, none⟩)) (Held.y_addr (S := fun _ => True) rfl rfl rfl (run_addr_of 48 51 g 0 n c p 4 .i64 Tryd.underlying48 (by kernel_rfl) hp0) _ trivial) ?_)
      | (refine wpList_store_lst (k := kRec) (w := w2) rfl 51 _ _ rfl (by kernel_rfl) base g n c p rs rb (by rw [Nat.zero_add]; rfl) rfl hz HLP.out ?_; intro w3 h3 g3; have gz := Lib.grownBy_trans gz g3; have r6 := r6.grown g3 (by simpa using g6); have r7 := r7.grown g3 (by simpa using g7))
      | (refine wpList_load_blk (w := w3) rfl 51 _ rfl p7 4 rfl 51 _ r7 _ Tryd.underlying51 rfl (by kernel_rfl) rfl ?_)
      | (refine wpList_load_blk (w := w3) rfl 51 _ rfl p6 4 rfl 51 _ r6 _ Tryd.underlying51 rfl (by kernel_rfl) rfl ?_)
      | (refine Held.wpList_run (w := w3) rfl (v := .int .i64 ((p + 1 : Nat) : Int)) (Held.y_int (S := fun _ => True) rfl rfl rfl (Held.run_add 3 .i64 HP1.out) _ trivial) ?_))
    refine (pick_any 1 ra.d ra.k ra.v ra.s rb.d rb.k rb.v rb.s rfl wa.1 wa.2.1 wa.2.2 wb.1 wb.2.1 wb.2.2 _).mono ?_
    rintro e w4 ⟨rfl, b4⟩
    have h4 := OwnL.below h3 b4
    have gz : w.grownBy w4 (some g) := Lib.grownBy_trans gz (grown_of_below b4 _)
    have HLQ' := Lib.hid (show p + 1 < (rs.set p rb).length by rw [List.length_set]; exact HLQ.out)
    go_wp2_with (first
      | (refine Held.wpList_run (w := w4) rfl (v := .pointer (some ⟨g, 0 + (p + 1) * 4, none⟩)) (Held.y_addr (S := fun _ => True) rfl rfl rfl (run_addr_of 48 51 g 0 n c (p + 1) 4 .i64 Tryd.underlying48 (by kernel_rfl) hp) _ trivial) ?_)
      | (refine wpList_store_lst (k := kRec) (w := w4) rfl 51 _ _ rfl (by kernel_rfl) base g n c (p + 1) (rs.set p rb) ra (by rw [Nat.zero_add]; rfl) rfl h4 HLQ'.out ?_; intro w5 h5 g5; have gz := Lib.grownBy_trans gz g5))
    go_end0
    exact ⟨⟨_, rfl⟩, by rw [HSET.out]; exact h5, gz⟩
  | false =>
    rw [hs] at HSET
    have HSET := Lib.hid (show settleR seq rs p = (rs.set p ra).set (p + 1) rb from HSET.out)
    clear hs
    go_wp2_with (first
      | (refine wpList_load_blk (w := w1) rfl 51 _ rfl p7 4 rfl 51 _ r7 _ Tryd.underlying51 rfl (by kernel_rfl) rfl ?_)
      | (refine wpList_load_blk (w := w1) rfl 51 _ rfl p6 4 rfl 51 _ r6 _ Tryd.underlying51 rfl (by kernel_rfl) rfl ?_))
    refine (pick_any 0 rb.d rb.k rb.v rb.s ra.d ra.k ra.v ra.s rfl wb.1 wb.2.1 wb.2.2 wa.1 wa.2.1 wa.2.2 _).mono ?_
    rintro e w2 ⟨rfl, b2⟩
    have r6 := r6.after b2
    have r7 := r7.after b2
    have hz := OwnL.below hz b2
    have gz : w.grownBy w2 (some g) := Lib.grownBy_trans gz (grown_of_below b2 _)
    clear b2
    go_wp2_with (first
      | (refine Held.wpList_run (w := w2) rfl (v := .pointer (some ⟨g, 0 + p * 4, none⟩)) (Held.y_addr (S := fun _ => True) rfl rfl rfl (run_addr_of 48 51 g 0 n c p 4 .i64 Tryd.underlying48 (by kernel_rfl) hp0) _ trivial) ?_)
      | (refine wpList_store_lst (k := kRec) (w := w2) rfl 51 _ _ rfl (by kernel_rfl) base g n c p rs ra (by rw [Nat.zero_add]; rfl) rfl hz HLP.out ?_; intro w3 h3 g3; have gz := Lib.grownBy_trans gz g3; have r6 := r6.grown g3 (by simpa using g6); have r7 := r7.grown g3 (by simpa using g7))
      | (refine wpList_load_blk (w := w3) rfl 51 _ rfl p7 4 rfl 51 _ r7 _ Tryd.underlying51 rfl (by kernel_rfl) rfl ?_)
      | (refine wpList_load_blk (w := w3) rfl 51 _ rfl p6 4 rfl 51 _ r6 _ Tryd.underlying51 rfl (by kernel_rfl) rfl ?_)
      | (refine Held.wpList_run (w := w3) rfl (v := .int .i64 ((p + 1 : Nat) : Int)) (Held.y_int (S := fun _ => True) rfl rfl rfl (Held.run_add 3 .i64 HP1.out) _ trivial) ?_))
    refine (pick_any 0 ra.d ra.k ra.v ra.s rb.d rb.k rb.v rb.s rfl wa.1 wa.2.1 wa.2.2 wb.1 wb.2.1 wb.2.2 _).mono ?_
    rintro e w4 ⟨rfl, b4⟩
    have h4 := OwnL.below h3 b4
    have gz : w.grownBy w4 (some g) := Lib.grownBy_trans gz (grown_of_below b4 _)
    have HLQ' := Lib.hid (show p + 1 < (rs.set p ra).length by rw [List.length_set]; exact HLQ.out)
    go_wp2_with (first
      | (refine Held.wpList_run (w := w4) rfl (v := .pointer (some ⟨g, 0 + (p + 1) * 4, none⟩)) (Held.y_addr (S := fun _ => True) rfl rfl rfl (run_addr_of 48 51 g 0 n c (p + 1) 4 .i64 Tryd.underlying48 (by kernel_rfl) hp) _ trivial) ?_)
      | (refine wpList_store_lst (k := kRec) (w := w4) rfl 51 _ _ rfl (by kernel_rfl) base g n c (p + 1) (rs.set p ra) rb (by rw [Nat.zero_add]; rfl) rfl h4 HLQ'.out ?_; intro w5 h5 g5; have gz := Lib.grownBy_trans gz g5))
    go_end0
    exact ⟨⟨_, rfl⟩, by rw [HSET.out]; exact h5, gz⟩
end Go.Proofs.YtlinmcgmkpkpaaaDoor.Mg
namespace Go.Proofs.YtlinmcgmkpkpaaaDoor.Sl
open Go.RowKit Go.Shelf Mem Held
section
variable {α : Type} {k : St α}
end
section
variable {α : Type} {k : St α} {P : Program} {ops : Array Oper} {rest : List Oper} {o : Oper} {a : Act} {w : World} {Q : Exit → Act → World → Prop}
end
end Go.Proofs.YtlinmcgmkpkpaaaDoor.Sl
namespace Go.Proofs.YtlinmcgmkpkpaaaDoor.Mg
open Go.RowKit Go.Shelf Go.Proofs.YtlinmcgmkpkpaaaDoor Mem Held Ct Rc Rs Sl
attribute [local irreducible] wpList wpListIn Calls
section
variable {P : Program} {S : World → Prop} {ρ : Operand → Value} {o : Oper}
theorem y_slnil {t e ty : TypeId} {x y : Operand} {A : Option Addr} {n c : Nat} (ho : o.op = .binOp .eql t x y ty) (hx : ρ x = .slice A n c) (hy : ρ y = .slice none 0 0) (hu : P.underlying t = some (.slice e)) : ∀ w, S w → (execOp ρ o).run P w = .ok (.value (.bool A.isNone)) w :=
  Held.y_bin ho hx hy (fun w => by cases A <;> simp [eqGuard]) (fun w => run_eql_slice_nil w t e A n c hu)
theorem run_append_zero (ts e : TypeId) (hu : P.underlying ts = some (.slice e)) (ie : TypeInfo) (hie : P.info? e = some ie) {ty : TypeId} (w : World) (As A : Option Addr) (n cap c : Nat) (hn : n ≤ cap) :
    (Builtin.append_ #[ts, ts] ty #[.slice As n cap, .slice A 0 c]).run P w = .ok (.slice As n cap) w := by
  cases A with
  | none => cases As <;> simp [Builtin.append_, run_underlying hu, sizeOf, typeInfo, hie, Builtin.lenOf, Builtin.firstCells, hn, storeCells]
  | some ad => cases As <;> simp [Builtin.append_, run_underlying hu, sizeOf, typeInfo, hie, Builtin.lenOf, Builtin.firstCells, hn, storeCells, loadCells, loadCellsFrom]
theorem run_build_none (ts e : TypeId) (hu : P.underlying ts = some (.slice e)) (ie : TypeInfo) (hie : P.info? e = some ie) (w : World) :
    (Instr.buildSlice ts 0 #[]).run P w = .ok (.slice (some ⟨w.heap.size, 0, none⟩) 0 0) (w.alloc (.cells #[] e)) := by
  simp [Instr.buildSlice, run_underlying hu, sizeOf, typeInfo, hie, newRow, Instr.fill]
  have : Array.range 0 = #[] := by simp
  rw [this, Array.map_empty]
end
section
variable {α : Type} {k : St α} {P : Program} {ops : Array Oper} {rest : List Oper} {o : Oper} {a : Act} {w : World} {Q : Exit → Act → World → Prop}
theorem wpList_append_all (hgd : o.guard = none) (s x : Operand) (ts e : TypeId) (ho : o.op = .call { callee := .builtin .append, args := #[s, x], argTypes := #[ts, ts] }) (hu : P.underlying ts = some (.slice e)) (z : Value) (bytes : Nat) (hinfo : (P.info? e).map (fun i => (i.zero, i.size, i.bytes)) = some (some z, k.s, bytes)) (hz : z.cells.size = k.s)
    (base B m c : Nat) (A : Option Addr) (v : Value) (xs ys : List α) (hs : a.eval s = v) (hx : a.eval x = .slice A m c) (hown : OwnL k e w base v xs) (hq : Lst k w B A m ys) (hm : xs.length + m ≤ 1048576) (hby : bytes ≤ 1048576) (hbase : base ≤ w.heap.size)
    (h : ∀ v' w', OwnL k e w' base v' (xs ++ ys) → w.grownBy w' v.ownBlock → (v'.ownBlock = v.ownBlock ∨ v'.ownBlock = some w.heap.size) → wpList P ops Q rest (a.put o.dst v') w') : wpList P ops Q (o :: rest) a w := by
  rcases Nat.eq_zero_or_pos m with h0 | h0
  · subst h0
    have e0 : ys = [] := List.eq_nil_of_length_eq_zero hq.1
    subst e0
    obtain ⟨A', c', rfl, hle, _⟩ := OwnL.form hown
    obtain ⟨ie, hie, _⟩ := info_parts hinfo
    exact Rs.wpList_append_ran hgd s x ts ts ho _ _ _ w hs hx (run_append_zero ts e hu ie hie w A' A _ c' c hle) (h _ w (by rw [List.append_nil]; exact hown) (World.grownBy.refl w _) (.inl rfl))
  · obtain ⟨g, off, rfl, _, _⟩ := hq.2.2 h0
    exact wpList_append_lst hgd s x ts e ho hu z bytes hinfo hz base B g off m c v xs ys hs hx hown hq hm hby hbase h
theorem wpList_build_none (hgd : o.guard = none) (ts e : TypeId) (ho : o.op = .buildSlice ts 0 #[]) (hu : P.underlying ts = some (.slice e)) (hinfo : (P.info? e).isSome = true)
    (h : ∀ w', Blk w' w.heap.size e #[] → w.grownBy w' none → wpList P ops Q rest (a.put o.dst (.slice (some ⟨w.heap.size, 0, none⟩) 0 0)) w') : wpList P ops Q (o :: rest) a w := by
  obtain ⟨ie, hie⟩ := Option.isSome_iff_exists.1 hinfo
  refine wpList_plain hgd fun K hK => ?_
  unfold Oper.wp execOp
  simp only [ho, Sem.run_bind, List.map_toArray, List.map_nil, run_build_none ts e hu ie hie w, Result.andThen_ok]
  exact hK _ _ (h _ (heap_alloc_new w _) (World.grownBy_alloc w _ none))
end
set_option maxRecDepth 100000 in
set_option maxHeartbeats 4000000 in
theorem clone_any (B : Nat) (A : Option Addr) (n c : Nat) (rs : List R) (w : World) (h : Lst kRec w B A n rs) (hB : B ≤ w.heap.size) (hn : n ≤ 1048576) :
    Calls Tryd.prog 70 #[.slice A n c] w fun e w' => ∃ v, e = .returned v ∧ OwnL kRec 51 w' w.heap.size v rs ∧ Below w.heap.size w w' := by
  go_enter Tryd.func70, Tryd.ntmps70
  cases A with
  | none =>
    have e0 : n = 0 := by
      rcases Nat.eq_zero_or_pos n with h0 | h0
      · exact h0
      · obtain ⟨_, _, e, _⟩ := h.2.2 h0
        cases e
    subst e0
    have e1 : rs = [] := List.eq_nil_of_length_eq_zero h.1
    subst e1
    go_wp2_with (refine Held.wpList_run (w := w) rfl (v := .bool true) (y_slnil (S := fun _ => True) (A := none) rfl rfl rfl Tryd.underlying48 _ trivial) ?_)
    go_ret
    exact ⟨_, rfl, OwnL.nil _ _ _ _, Below.refl _ _⟩
  | some ad =>
    have HL := Lib.hid h.1
    go_wp2_with (first
      | (refine Held.wpList_run (w := w) rfl (v := .bool false) (y_slnil (S := fun _ => True) (A := some ad) rfl rfl rfl Tryd.underlying48 _ trivial) ?_)
      | (at_builtin; refine wpList_append_all (k := kRec) (w := w1) rfl _ _ 48 51 rfl Tryd.underlying48 _ 32 info_kRec rfl w.heap.size B n c (some ad) _ [] rs rfl rfl o1 (Lst.below h (b1.mono hB)) (by simp; exact hn) (by omega) b1.size ?_; intro v2 w2 o2 g2 n2)
      | (refine wpList_build_none (w := w) rfl 48 51 rfl Tryd.underlying48 (by kernel_rfl) ?_; intro w1 q1 g1; have b1 : Below w.heap.size w w1 := (Below.refl _ w).grown g1 (Nat.le_refl _) (by simp); have o1 : OwnL kRec 51 w1 w.heap.size (.slice (some ⟨w.heap.size, 0, none⟩) 0 0) [] := own_of_blk (k := kRec) (xs := []) q1 (Nat.le_refl _) (by simp [maxLen])))
    have b2 : Below w.heap.size w w2 := b1.grown g2 b1.size (fun r e => by have e : some w.heap.size = some r := e; cases e; exact Nat.le_refl _)
    go_ret
    exact ⟨_, rfl, o2, b2⟩
end Go.Proofs.YtlinmcgmkpkpaaaDoor.Mg
