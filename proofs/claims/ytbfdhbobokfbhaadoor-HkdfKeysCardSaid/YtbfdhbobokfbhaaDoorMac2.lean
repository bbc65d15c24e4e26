/-
  The iterator over a first part and all parts behind it, of package mac, by its contract. Conditions beyond those stated: none.
-/
import Derived.Test.YtbfdhbobokfbhaaDoorMac1
namespace Go.Proofs.YtbfdhbobokfbhaaDoor.Mac
open Go.RowKit Go.Shelf Go.Proofs.YtbfdhbobokfbhaaDoor.Mem Go.Proofs.YtbfdhbobokfbhaaDoor.Help Go.Proofs.YtbfdhbobokfbhaaDoor.Sum Go.Proofs.YtbfdhbobokfbhaaDoor.Sha Go.Proofs.YtbfdhbobokfbhaaDoor.Range
set_option linter.unusedVariables false
attribute [local go_sem] Oper.semAt_some

theorem behind_any (A0 A : Option Addr) (n0 c0 m c : Nat) (w : World) :
    Calls Tryd.prog 31 #[.slice A0 n0 c0, .slice A m c] w fun e w' => e = .returned (.func (.func 35) #[] #[.pointer (some ⟨w.heap.size, 0, none⟩), .pointer (some ⟨w.heap.size + 1, 0, none⟩)]) ∧
      w' = (w.alloc (.cells #[.slice A0 n0 c0] 22)).alloc (.cells #[.slice A m c] 43) := by
  go_enter Tryd.func31, Tryd.ntmps31
  go_wp2
  go_ret
  exact ⟨rfl, rfl⟩

/-- a slice that reads as values, at a block that is none of S -/
def ValsN (w : World) (S : Nat → Prop) (A : Option Addr) (n : Nat) (vs : List Value) : Prop :=
  vs.length = n ∧ (0 < n → ∃ b off, A = some ⟨b, off, none⟩ ∧ ¬ S b ∧ ∀ i, i < n → w.cell? ⟨b, off + i, none⟩ = some (vs.getD i undef))
theorem ValsN.only {S : Nat → Prop} {w w' : World} {A : Option Addr} {n : Nat} {vs : List Value} (h : ValsN w S A n vs) (ho : Only S w w') : ValsN w' S A n vs :=
  ⟨h.1, fun hn => by
    obtain ⟨b, off, e, hb, hc⟩ := h.2 hn
    exact ⟨b, off, e, hb, fun i hi => ho.cell (p := ⟨b, off + i, none⟩) hb (hc i hi)⟩⟩
theorem ValsN.of {S : Nat → Prop} {w : World} {B : Nat} {A : Option Addr} {n : Nat} {vs : List Value} (h : Vals w B A n vs) (hB : ∀ b, b < B → ¬ S b) : ValsN w S A n vs :=
  ⟨h.1, fun hn => by
    obtain ⟨b, off, e, hb, hc⟩ := h.2.2 hn
    exact ⟨b, off, e, hB b hb, hc⟩⟩
theorem ValsN.below {S : Nat → Prop} {w w' : World} {A : Option Addr} {n : Nat} {vs : List Value} (h : ValsN w S A n vs) (hb : Below w.heap.size w w') : ValsN w' S A n vs :=
  ⟨h.1, fun hn => by
    obtain ⟨b, off, e, hS, hc⟩ := h.2 hn
    exact ⟨b, off, e, hS, fun i hi => (hb.cell (p := ⟨b, off + i, none⟩) (World.block_lt_of_cell? w _ (hc i hi))).trans (hc i hi)⟩⟩

theorem take_cons_prefix (v0 : Value) (vs : List Value) {k : Nat} (hk : k < vs.length) : (v0 :: vs.take k) ++ [vs.getD k undef] = v0 :: vs.take (k + 1) := by
  rw [List.cons_append, List.take_succ_eq_append_getElem hk, List.getD_eq_getElem?_getD, List.getElem?_eq_getElem hk]
  rfl

set_option maxRecDepth 100000 in
set_option maxHeartbeats 2000000 in
theorem behind_far (n b1 b2 : Nat) (S : Nat → Prop) (v0 : Value) (A : Option Addr) (m c : Nat) (vs : List Value) (w : World) (h1 : w.cell? ⟨b1, 0, none⟩ = some v0) (h2 : w.cell? ⟨b2, 0, none⟩ = some (.slice A m c)) (hS1 : ¬ S b1) (hS2 : ¬ S b2)
    (ho : v0.oneCell' = true) (hv1 : ∀ v ∈ vs, v.oneCell' = true) (hv : ValsN w S A m vs) (hm : m ≤ 1073741824) :
    SeqFar Fence.wide n Tryd.prog 35 #[.pointer (some ⟨b1, 0, none⟩), .pointer (some ⟨b2, 0, none⟩)] (fun v => #[v]) (Only S) (v0 :: vs) w := by
  intro l J W hW hJ hY h0
  have k1 := (hW.cell (p := ⟨b1, 0, none⟩) (World.block_lt_of_cell? w _ h1)).trans h1
  have k2 := (hW.cell (p := ⟨b2, 0, none⟩) (World.block_lt_of_cell? w _ h2)).trans h2
  have kv := hv.below hW
  have HL := Lib.hid hv.1
  clear h1 h2 hv
  obtain ⟨fn, tmps, assign, body, hy, hR⟩ := hY [] v0 _ h0 ⟨vs, rfl⟩
  refine callsIn_of_wp Tryd.func35 rfl trivial ?_ rfl
  simp only [Tryd.ntmps35, List.size_toArray, List.length_cons, List.length_nil, Nat.reduceAdd, Nat.reduceSub, Array.replicate_succ, Array.replicate_zero, List.push_toArray, List.append_toArray, List.nil_append, List.cons_append]
  gi_wp2_with fail
  refine ⟨fun h => (by cases h), ?_⟩
  refine hR.mono ?_
  rintro e W1 ⟨rfl, J1, o1⟩
  have q2 := o1.cell (p := ⟨b2, 0, none⟩) hS2 k2
  have qv := kv.only o1
  clear hy hR k1 k2 kv h0 o1
  have hmi : (m : Int) ≤ 1073741824 := by omega
  gi_wp2_with fail
  gi_loopw [12] (fun i wr => ∃ k : Nat, k ≤ m ∧ i = .int .i64 k ∧ J (v0 :: vs.take k) wr ∧ Only S W1 wr) (fun i _ => m - (intOf i).toNat)
  case atStart => exact ⟨0, by omega, rfl, by simpa using J1, Only.refl _ _⟩
  case round =>
    obtain ⟨k, hk, rfl, Jk, ok⟩ := hrel
    by_cases hlt : k < m
    · obtain ⟨b, off, rfl, hbS, hc⟩ := (qv.only ok).2 (by omega)
      have hck := hc k hlt
      have hkl : k < vs.length := by rw [HL.out]; exact hlt
      have HP := Lib.hid (take_cons_prefix v0 vs hkl)
      have h1c := hv1 (vs.getD k undef) (by rw [List.getD_eq_getElem?_getD, List.getElem?_eq_getElem hkl]; exact List.getElem_mem hkl)
      generalize vs.getD k undef = v at hck HP h1c
      have hpre : (v0 :: vs.take k) ++ [v] <+: v0 :: vs := by rw [HP.out]; exact List.cons_prefix_cons.2 ⟨rfl, List.take_prefix _ _⟩
      obtain ⟨fn, tmps, assign, body, hy, hR⟩ := hY (v0 :: vs.take k) v wr Jk hpre
      have hlt' : (k : Int) < (m : Int) := by omega
      have hk0 : (0 : Int) ≤ (k : Int) := by omega
      clear hpre hc
      gi_wp2_with fail
      refine ⟨fun h => (by cases h), ?_⟩
      refine hR.mono ?_
      rintro e W4 ⟨rfl, J4, o4⟩
      rw [HP.out] at J4
      gi_wp2_with fail
      go_roundw
      case rel => exact ⟨k + 1, by omega, by go_num, J4, ok.trans o4⟩
      case measure => simp [intOf]; omega
    · have hkm : k = m := by omega
      subst hkm
      rw [List.take_of_length_le (by rw [HL.out]; omega)] at Jk
      gi_wp2_with fail
      go_end0
      exact ⟨⟨_, rfl⟩, Jk⟩
end Go.Proofs.YtbfdhbobokfbhaaDoor.Mac

