/-
  What package sha lays behind its parts: slices.Grow and slices.Concat at lists of texts, and padded, each by its contract. Conditions: at most 2^36 parts, of at most 2^40 bytes together.
-/
import Derived.Test.YtbfdhbobokfbhaaDoorSha4
import Derived.Test.YtbfdhbobokfbhaaDoorVals
namespace Go.Proofs.YtbfdhbobokfbhaaDoor.Sha
open Go.RowKit Go.Proofs.YtbfdhbobokfbhaaDoor.Mem Go.Proofs.YtbfdhbobokfbhaaDoor.Help Go.Proofs.YtbfdhbobokfbhaaDoor.Sum
set_option linter.unusedVariables false

theorem info_bytes : (Tryd.prog.info? 22).map (fun i => (i.zero, i.size, i.bytes)) = some (some (.slice none 0 0), 1, 24) := by kernel_rfl

theorem ownBlock_ge {base n size : Nat} {v : Value} {w : World} {e : TypeId} {xs : List Value}
    (h : (v = .slice none 0 0 ∧ n = 0) ∨ ∃ g cap cur, v = .slice (some ⟨g, 0, none⟩) n cap ∧ base ≤ g ∧ w.heap[g]? = some (.cells cur e (0, 0)) ∧ n ≤ cap ∧ cap ≤ maxLen ∧ cur.size = cap * size ∧ cur.toList.take (n * size) = xs) {r : Nat}
    (hr : v.ownBlock = some r) : base ≤ r := by
  rcases h with ⟨rfl, _⟩ | ⟨g, cap, cur, rfl, hb, _⟩
  · simp [Value.ownBlock] at hr
  · simp only [Value.ownBlock, Option.some.injEq] at hr
    omega

theorem grow_any (n : Nat) (w : World) (h0 : 0 < n) (hn : n ≤ 1099511627776) :
    Calls Tryd.prog 46 #[.slice none 0 0, .int .i64 (n : Int)] w fun e w' => ∃ cap, e = .returned (.slice (some ⟨w.heap.size, 0, none⟩) 0 cap) ∧ n ≤ cap ∧
      w'.ownsRow w.heap.size 22 1 (.slice (some ⟨w.heap.size, 0, none⟩) 0 cap) 0 [] ∧ w.grownBy w' none := by
  obtain ⟨cap, w1, hrun, hc, hown, hg, hm⟩ := run_grow_nil (P := Tryd.prog) w 43 3 43 22 (.slice none 0 0) 24 .i64 Tryd.underlying43 Tryd.underlying3 info_bytes rfl n h0 hn (by omega)
  have hn' : (n : Int) ≤ 1099511627776 := by omega
  have h0' : (0 : Int) < (n : Int) := by omega
  go_enter Tryd.func46, Tryd.ntmps46
  go_wp2_with (at_builtin; refine Lib.wpList_append_run _ rfl _ _ 43 3 rfl _ _ rfl rfl _ _ hrun ?_)
  go_ret
  exact ⟨cap, rfl, hc, hown, hg⟩

theorem concat_any (B : Nat) (A A0 A1 : Option Addr) (c n0 n1 c0 c1 : Nat) (vs0 vs1 : List Value) (w : World) (h : Vals w B A 2 [.slice A0 n0 c0, .slice A1 n1 c1]) (h0 : Vals w B A0 n0 vs0) (h1 : Vals w B A1 n1 vs1) (hB : B ≤ w.heap.size)
    (hn0 : n0 ≤ 68719476736) (hn1 : n1 ≤ 68719476736) (hp : 0 < n0 + n1) :
    Calls Tryd.prog 43 #[.slice A 2 c] w fun e w' => ∃ v, e = .returned v ∧ w'.ownsRow w.heap.size 22 1 v (n0 + n1) (vs0 ++ vs1) ∧ Below w.heap.size w w' := by
  obtain ⟨b, off, rfl, hb, ca⟩ := h.at_ (i := 0) (by omega)
  obtain ⟨b', off', e', hb', cb⟩ := h.at_ (i := 1) (by omega)
  injection e' with e'
  injection e' with e1 e2
  subst e1
  subst e2
  clear h
  simp only [List.getD_eq_getElem?_getD, List.getElem?_cons_zero, List.getElem?_cons_succ, Option.getD_some, Nat.add_zero] at ca cb
  have hn0' : (n0 : Int) ≤ 68719476736 := by omega
  have hn1' : (n1 : Int) ≤ 68719476736 := by omega
  go_enter Tryd.func43, Tryd.ntmps43
  go_wp2_with fail
  go_loop [3, 11] (fun s i => (i = .int .i64 0 ∧ s = .int .i64 0) ∨ (i = .int .i64 1 ∧ s = .int .i64 (n0 : Int)) ∨ (i = .int .i64 2 ∧ s = .int .i64 ((n0 : Int) + n1))) (fun _ i => 2 - (intOf i).toNat)
  case atStart => exact .inl ⟨rfl, rfl⟩
  case round =>
    rcases hrel with ⟨rfl, rfl⟩ | ⟨rfl, rfl⟩ | ⟨rfl, rfl⟩
    · go_wp2_with fail
      go_round
      case rel => exact .inr (.inl ⟨rfl, rfl⟩)
      case measure => simp [intOf]
    · go_wp2_with fail
      go_round
      case rel => exact .inr (.inr ⟨rfl, rfl⟩)
      case measure => simp [intOf]
    · go_wp2_with fail
      have en : (n0 : Int) + (n1 : Int) = ((n0 + n1 : Nat) : Int) := by omega
      rw [en]
      refine (grow_any (n0 + n1) _ hp (by omega)).mono ?_
      rintro e w1 ⟨cap, rfl, hcap, hown, hg⟩
      have s1 := hg.size
      have hb1 : Below w.heap.size w w1 := (Below.refl _ w).grown hg (Nat.le_refl _) (by simp)
      clear en hg
      go_wp2_with fail
      go_loopw [6, 27] (fun v i wr => Below w.heap.size w wr ∧ w1.heap.size ≤ wr.heap.size ∧ ((i = .int .i64 0 ∧ wr.ownsRow w.heap.size 22 1 v 0 []) ∨ (i = .int .i64 1 ∧ wr.ownsRow w.heap.size 22 1 v n0 vs0) ∨ (i = .int .i64 2 ∧ wr.ownsRow w.heap.size 22 1 v (n0 + n1) (vs0 ++ vs1)))) (fun _ i _ => 2 - (intOf i).toNat)
      case atStart => exact ⟨hb1, Nat.le_refl _, .inl ⟨rfl, hown⟩⟩
      case round =>
        obtain ⟨hbl, hs, hrel⟩ := hrel
        have ca1 := (hbl.cell (p := ⟨b, off, none⟩) (by show b < _; omega)).trans ca
        have cb1 := (hbl.cell (p := ⟨b, off + 1, none⟩) (by show b < _; omega)).trans cb
        have v0 := (h0.more hB).below hbl
        have v1 := (h1.more hB).below hbl
        have hz := hbl.size
        clear ca cb h0 h1 hb1 hown
        rcases hrel with ⟨rfl, hown⟩ | ⟨rfl, hown⟩ | ⟨rfl, hown⟩
        · go_wp2_with (at_builtin; refine wpList_append_vals _ rfl _ _ 43 rfl w.heap.size 22 (.slice none 0 0) 24 Tryd.underlying43 info_bytes rfl _ 0 [] rfl hown w.heap.size A0 n0 c0 vs0 rfl v0 (by omega) (by omega) hz ?_; intro v' w' hown' hg' hat')
          go_roundw
          case rel => exact ⟨hbl.grown hg' hz (fun r e => ownBlock_ge hown.2 e), by have := hg'.size; omega, .inr (.inl ⟨rfl, by simpa using hown'⟩)⟩
          case measure => simp [intOf]
        · go_wp2_with (at_builtin; refine wpList_append_vals _ rfl _ _ 43 rfl w.heap.size 22 (.slice none 0 0) 24 Tryd.underlying43 info_bytes rfl _ n0 vs0 rfl hown w.heap.size A1 n1 c1 vs1 rfl v1 (by omega) (by omega) hz ?_; intro v' w' hown' hg' hat')
          go_roundw
          case rel => exact ⟨hbl.grown hg' hz (fun r e => ownBlock_ge hown.2 e), by have := hg'.size; omega, .inr (.inr ⟨rfl, hown'⟩)⟩
          case measure => simp [intOf]
        · go_wp2_with fail
          go_ret
          exact ⟨_, rfl, hown, hbl⟩
end Go.Proofs.YtbfdhbobokfbhaaDoor.Sha

