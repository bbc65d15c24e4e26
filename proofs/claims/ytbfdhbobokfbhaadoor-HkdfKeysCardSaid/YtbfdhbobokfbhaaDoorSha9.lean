/-
  The document's own Pad by its contract. Conditions: a message of at most 2^44 bytes.
-/
import Derived.Test.YtbfdhbobokfbhaaDoorSha8
import Derived.Great.BuildSlice
namespace Go.Proofs.YtbfdhbobokfbhaaDoor.Sha
open Go.RowKit Go.Proofs.YtbfdhbobokfbhaaDoor.Mem Go.Proofs.YtbfdhbobokfbhaaDoor.Help Go.Proofs.YtbfdhbobokfbhaaDoor.Sum
set_option linter.unusedVariables false

theorem pad_front (n : Nat) : (padI n).take (1 + (119 - n % 64) % 64) = 128 :: List.replicate ((119 - n % 64) % 64) 0 := by
  unfold padI
  rw [Nat.add_comm, List.take_succ_cons, List.take_left' (by simp)]
theorem pad_back (n k : Nat) (hk : k < 8) : (padI n).take (1 + (119 - n % 64) % 64 + (k + 1)) = (padI n).take (1 + (119 - n % 64) % 64 + k) ++ [((8 * n : Nat) : Int) / 2 ^ (56 - 8 * k) % 256] := by
  rw [show 1 + (119 - n % 64) % 64 + (k + 1) = 1 + (119 - n % 64) % 64 + k + 1 by omega, List.take_succ_eq_append_getElem (by rw [pad_length]; omega)]
  congr 2
  simp only [padI]
  rw [List.getElem_cons, dif_neg (by omega), List.getElem_append_right (by simp; omega)]
  simp only [List.length_replicate, List.getElem_map, List.getElem_range]
  have e : 1 + (119 - n % 64) % 64 + k - 1 - (119 - n % 64) % 64 = k := by omega
  rw [e]

theorem rpad_any (N : Int) (n : Nat) (w : World) (hN : (n : Int) = max N 0) (hn : n ≤ 17592186044416) :
    Calls Tryd.prog 28 #[.int .i64 N] w fun e w' => ∃ v, e = .returned v ∧ Mem.Own w' w.heap.size 5 .u8 v (padI n) ∧ Below w.heap.size w w' := by
  obtain ⟨z, hz⟩ : ∃ z, (119 - n % 64) % 64 = z := ⟨_, rfl⟩
  have hz64 : z < 64 := by omega
  have PF := Lib.hid (pad_front n)
  have PB := Lib.hid (pad_back n)
  have PL := Lib.hid (pad_length n)
  rw [hz] at PF PB PL
  have r1 : Row (w.alloc (.cells (arr .u8 [128]) 5)) w.heap.size 5 .u8 [128] := Row.new w _ (by simp; decide)
  have hown0 : Mem.Own (w.alloc (.cells (arr .u8 [128]) 5)) w.heap.size 5 .u8 (.slice (some ⟨w.heap.size, 0, none⟩) 1 1) [128] := r1.own (Nat.le_refl _) (n := 1) (by simp) (by simp [maxLen])
  have hbel0 : Below w.heap.size w (w.alloc (.cells (arr .u8 [128]) 5)) := (Below.refl _ w).alloc (Nat.le_refl _) _
  clear r1
  by_cases hneg : N ≤ 0
  · have e : n = 0 := by omega
    subst e
    have hz55 : z = 55 := by omega
    subst hz55
    clear hN hz
    go_enter Tryd.func28, Tryd.ntmps28
    go_wp2_with fail
    go_loopw [3] (fun v wr => ∃ k : Nat, k ≤ 55 ∧ Mem.Own wr w.heap.size 5 .u8 v (128 :: List.replicate k 0) ∧ Below w.heap.size w wr) (fun v _ => 55 + 1 - lenV v)
    case atStart => exact ⟨0, by omega, hown0, hbel0⟩
    case round =>
      clear hown0 hbel0
      obtain ⟨k, hk, hown, hbl⟩ := hrel
      obtain ⟨A, c, hv, hc1, hc2, hi⟩ := hown.form
      rw [List.length_cons, List.length_replicate] at hv hc1
      subst hv
      have hk64 : (k : Int) ≤ 64 := by omega
      by_cases hlt : k < 55
      · have hne : ¬ ((k : Int) + 1) % 64 = 56 := by omega
        have hneb : (((k : Int) + 1) % 64 != 56) = true := by simpa using hne
        have r0 : Row (wr.alloc (.cells (arr .u8 [0]) 5)) wr.heap.size 5 .u8 [0] := Row.new wr _ (by simp; decide)
        have i0 := r0.ints (n := 1) (by simp)
        have hsz := hbl.size
        go_wp2_with (at_builtin; refine wpList_append_ints _ rfl _ _ 22 rfl w.heap.size 5 .u8 1 Tryd.underlying22 info_u8 _ (128 :: List.replicate k 0) rfl (hown.alloc _) _ _ 1 1 [0] rfl i0 (by simp; omega) (by omega) (by simp; omega) ?_; intro v1 w1 hown1 hg1 hat1)
        go_roundw
        case rel =>
          refine ⟨k + 1, by omega, ?_, (hbl.alloc hsz _).grown hg1 (by simp; omega) (fun r e => ownBlock_ge hown.2.2 e)⟩
          have e : (128 :: List.replicate (k + 1) 0 : List Int) = (128 :: List.replicate k 0) ++ [0] := by rw [List.cons_append, ← List.replicate_succ']
          rw [e]; exact hown1
        case measure =>
          obtain ⟨A1, c1, hv1, _⟩ := hown1.form
          rw [hv1]
          simp [lenV]; omega
      · have hkz : k = 55 := by omega
        subst hkz
        have PF0 := PF.out
        rw [← PF0] at hown
        have hown : Mem.Own wr w.heap.size 5 .u8 (.slice A (55 + 1) c) ((padI 0).take (56 + 0)) := hown
        go_wp2_with fail
        go_loopw [3, 5] (fun v i wr => ∃ j : Nat, j ≤ 8 ∧ i = .int .i64 (7 - (j : Int)) ∧ Mem.Own wr w.heap.size 5 .u8 v ((padI 0).take (56 + j)) ∧ Below w.heap.size w wr) (fun _ i _ => (intOf i + 1).toNat)
        case atStart => exact ⟨0, by omega, rfl, hown, hbl⟩
        case round =>
          clear hown hbl
          obtain ⟨j, hj, rfl, hown, hbl⟩ := hrel
          have hlen : ((padI 0).take (56 + j)).length = 56 + j := by rw [List.length_take, PL.out]; omega
          obtain ⟨A, c, hv, hc1, hc2, hi⟩ := hown.form
          rw [hlen] at hv hc1
          subst hv
          have HLN := Lib.hid hlen
          clear hlen
          by_cases hlt8 : j < 8
          · have ei : (7 : Int) - (j : Int) = ((7 - j : Nat) : Int) := by omega
            rw [ei]
            obtain ⟨q, hq⟩ : ∃ q, 7 - j = q := ⟨_, rfl⟩
            rw [hq]
            have hq7 : q ≤ 7 := by omega
            have hq7i : (q : Int) ≤ 7 := by omega
            have hq0 : (0 : Int) ≤ (q : Int) := by omega
            have E := Lib.hid (show (0 : Int) = ((8 * 0 : Nat) : Int) / 2 ^ (56 - 8 * j) % 256 by rw [show 56 - 8 * j = 8 * q by omega]; simp)
            have hsz := hbl.size
            have rz : ∀ x : Int, 0 ≤ x → x ≤ 255 → Row (wr.alloc (.cells (arr .u8 [x]) 5)) wr.heap.size 5 .u8 [x] := fun x h1 h2 => Row.new wr _ (by simp [Lit.wf, IntKind.min, IntKind.max, IntKind.signed, IntKind.bits]; omega)
            have hx0 : (0 : Int) ≤ (0 : Int) := by omega
            have hx1 : (0 : Int) ≤ 255 := by omega
            have rx := rz _ hx0 hx1
            have ix := rx.ints (n := 1) (by simp)
            have HPB := Lib.hid (show (padI 0).take (56 + (j + 1)) = (padI 0).take (56 + j) ++ [((8 * 0 : Nat) : Int) / 2 ^ (56 - 8 * j) % 256] from PB.out j hlt8)
            clear rz hx0 hx1 ei
            go_wp2_with (at_builtin; refine wpList_append_ints _ rfl _ _ 22 rfl w.heap.size 5 .u8 1 Tryd.underlying22 info_u8 _ ((padI 0).take (56 + j)) rfl (hown.alloc _) _ _ 1 1 [(0 : Int)] rfl ix (by rw [HLN.out]; omega) (by omega) (by simp; omega) ?_; intro v1 w1 hown1 hg1 hat1)
            have own2 : Mem.Own w1 w.heap.size 5 .u8 v1 ((padI 0).take (56 + (j + 1))) := by rw [HPB.out, ← E.out]; exact hown1
            have bel2 : Below w.heap.size w w1 := (hbl.alloc hsz _).grown hg1 (by simp; omega) (fun r e => ownBlock_ge hown.2.2 e)
            have ej : Value.int .i64 ((q : Int) - 1) = .int .i64 (7 - ((j + 1 : Nat) : Int)) := by congr 1; omega
            go_roundw
            case rel => first | exact ⟨j + 1, by omega, ej, own2, bel2⟩ | ((repeat apply Exists.intro); exact ⟨⟨j + 1, by omega, ej, own2, bel2⟩, rfl⟩)
            case measure => simp [intOf]
          · have hj8 : j = 8 := by omega
            subst hj8
            have hall : (padI 0).take (56 + 8) = padI 0 := List.take_of_length_le (by rw [PL.out]; omega)
            rw [hall] at hown
            go_wp2_with fail
            go_ret
            exact ⟨_, rfl, hown, hbl⟩
  · have e : N = (n : Int) := by omega
    subst e
    have hnn : (n : Int) ≤ 17592186044416 := by omega
    have hn0 : (0 : Int) < (n : Int) := by omega
    clear hN hneg
    go_enter Tryd.func28, Tryd.ntmps28
    go_wp2_with fail
    go_loopw [3] (fun v wr => ∃ k : Nat, k ≤ z ∧ Mem.Own wr w.heap.size 5 .u8 v (128 :: List.replicate k 0) ∧ Below w.heap.size w wr) (fun v _ => z + 1 - lenV v)
    case atStart => exact ⟨0, by omega, hown0, hbel0⟩
    case round =>
      clear hown0 hbel0
      obtain ⟨k, hk, hown, hbl⟩ := hrel
      obtain ⟨A, c, hv, hc1, hc2, hi⟩ := hown.form
      rw [List.length_cons, List.length_replicate] at hv hc1
      subst hv
      have hk64 : (k : Int) ≤ 64 := by omega
      by_cases hlt : k < z
      · have hne : ¬ ((n : Int) + ((k : Int) + 1)) % 64 = 56 := by omega
        have hneb : (((n : Int) + ((k : Int) + 1)) % 64 != 56) = true := by simpa using hne
        have r0 : Row (wr.alloc (.cells (arr .u8 [0]) 5)) wr.heap.size 5 .u8 [0] := Row.new wr _ (by simp; decide)
        have i0 := r0.ints (n := 1) (by simp)
        have hsz := hbl.size
        go_wp2_with (at_builtin; refine wpList_append_ints _ rfl _ _ 22 rfl w.heap.size 5 .u8 1 Tryd.underlying22 info_u8 _ (128 :: List.replicate k 0) rfl (hown.alloc _) _ _ 1 1 [0] rfl i0 (by simp; omega) (by omega) (by simp; omega) ?_; intro v1 w1 hown1 hg1 hat1)
        go_roundw
        case rel =>
          refine ⟨k + 1, by omega, ?_, (hbl.alloc hsz _).grown hg1 (by simp; omega) (fun r e => ownBlock_ge hown.2.2 e)⟩
          have e : (128 :: List.replicate (k + 1) 0 : List Int) = (128 :: List.replicate k 0) ++ [0] := by rw [List.cons_append, ← List.replicate_succ']
          rw [e]; exact hown1
        case measure =>
          obtain ⟨A1, c1, hv1, _⟩ := hown1.form
          rw [hv1]
          simp [lenV]; omega
      · have hkz : k = z := by omega
        subst hkz
        rw [← PF.out] at hown
        have hnb : (((n : Int) + ((k : Int) + 1)) % 64 != 56) = false := by
          have : ((n : Int) + ((k : Int) + 1)) % 64 = 56 := by omega
          simpa using this
        go_wp2_with fail
        go_loopw [3, 5] (fun v i wr => ∃ j : Nat, j ≤ 8 ∧ i = .int .i64 (7 - (j : Int)) ∧ Mem.Own wr w.heap.size 5 .u8 v ((padI n).take (1 + k + j)) ∧ Below w.heap.size w wr) (fun _ i _ => (intOf i + 1).toNat)
        case atStart => exact ⟨0, by omega, rfl, hown, hbl⟩
        case round =>
          clear hown hbl
          obtain ⟨j, hj, rfl, hown, hbl⟩ := hrel
          have hlen : ((padI n).take (1 + k + j)).length = 1 + k + j := by rw [List.length_take, PL.out]; omega
          obtain ⟨A, c, hv, hc1, hc2, hi⟩ := hown.form
          rw [hlen] at hv hc1
          subst hv
          have HLN := Lib.hid hlen
          clear hlen
          by_cases hlt8 : j < 8
          · have ei : (7 : Int) - (j : Int) = ((7 - j : Nat) : Int) := by omega
            rw [ei]
            obtain ⟨q, hq⟩ : ∃ q, 7 - j = q := ⟨_, rfl⟩
            rw [hq]
            have hq7 : q ≤ 7 := by omega
            have hq7i : (q : Int) ≤ 7 := by omega
            have hq0 : (0 : Int) ≤ (q : Int) := by omega
            have E := Lib.hid (show ((n : Int) * 8) / 2 ^ (8 * q) % 256 = ((8 * n : Nat) : Int) / 2 ^ (56 - 8 * j) % 256 by rw [show 56 - 8 * j = 8 * q by omega]; congr 2; omega)
            have hsz := hbl.size
            have rz : ∀ x : Int, 0 ≤ x → x ≤ 255 → Row (wr.alloc (.cells (arr .u8 [x]) 5)) wr.heap.size 5 .u8 [x] := fun x h1 h2 => Row.new wr _ (by simp [Lit.wf, IntKind.min, IntKind.max, IntKind.signed, IntKind.bits]; omega)
            have hx0 : (0 : Int) ≤ ((n : Int) * 8) / 2 ^ (8 * q) % 256 := by omega
            have hx1 : ((n : Int) * 8) / 2 ^ (8 * q) % 256 ≤ 255 := by omega
            have rx := rz _ hx0 hx1
            have ix := rx.ints (n := 1) (by simp)
            have HPB := Lib.hid (PB.out j hlt8)
            clear rz hx0 hx1 ei
            go_wp2_with (at_builtin; refine wpList_append_ints _ rfl _ _ 22 rfl w.heap.size 5 .u8 1 Tryd.underlying22 info_u8 _ ((padI n).take (1 + k + j)) rfl (hown.alloc _) _ _ 1 1 [(n : Int) * 8 / 2 ^ (8 * q) % 256] rfl ix (by rw [HLN.out]; omega) (by omega) (by simp; omega) ?_; intro v1 w1 hown1 hg1 hat1)
            have own2 : Mem.Own w1 w.heap.size 5 .u8 v1 ((padI n).take (1 + k + (j + 1))) := by rw [HPB.out, ← E.out]; exact hown1
            have bel2 : Below w.heap.size w w1 := (hbl.alloc hsz _).grown hg1 (by simp; omega) (fun r e => ownBlock_ge hown.2.2 e)
            have ej : Value.int .i64 ((q : Int) - 1) = .int .i64 (7 - ((j + 1 : Nat) : Int)) := by congr 1; omega
            go_roundw
            case rel => first | exact ⟨j + 1, by omega, ej, own2, bel2⟩ | ((repeat apply Exists.intro); exact ⟨⟨j + 1, by omega, ej, own2, bel2⟩, rfl⟩)
            case measure => simp [intOf]
          · have hj8 : j = 8 := by omega
            subst hj8
            have hall : (padI n).take (1 + k + 8) = padI n := List.take_of_length_le (by rw [PL.out]; omega)
            rw [hall] at hown
            go_wp2_with fail
            go_ret
            exact ⟨_, rfl, hown, hbl⟩
end Go.Proofs.YtbfdhbobokfbhaaDoor.Sha

