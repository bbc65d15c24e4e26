/-
  The functions put, Pad and Words of package sha, each by its contract.
  What package sha lays behind its parts: slices.Grow and slices.Concat at lists of texts, and padded, each by its contract.
  The function padded of package sha by its contract.
  The iterator over a message's blocks of package sha, by its contract: it hands out just the blocks, one by one.
  The function Sum of package sha by its contract: SHA-256 of all parts, one behind the other.
  What the frame of a proof says of a list of texts that came in: a slice of slices that read as lists of bytes.
-/
import Derived.Test.YtjelacblnjbfgaaGreatDoorB2
import Derived.Test.YtjelacblnjbfgaaGreatDoorB1
import Derived.Deep.Matrix
set_option linter.unusedVariables false
namespace Go.Proofs.YtjelacblnjbfgaaGreatDoor.Sha
open Go.RowKit Mem Help Go.Proofs.YtjelacblnjbfgaaGreatDoor.Sum
def putL (zs : List Int) (off len : Nat) (x : Int) (k : Nat) : List Int :=
  (List.range zs.length).map fun j => if off + len - k ≤ j ∧ j < off + len then x / 2 ^ (8 * (off + len - 1 - j)) % 256 else zs.getD j 0
theorem putL_length (zs : List Int) (off len : Nat) (x : Int) (k : Nat) : (putL zs off len x k).length = zs.length := by simp [putL]
theorem putL_start (zs : List Int) (off len : Nat) (x : Int) : putL zs off len x 0 = zs := by
  apply List.ext_getElem (by rw [putL_length])
  intro i h1 h2
  simp only [putL, List.getElem_map, List.getElem_range]
  rw [if_neg (by omega)]
  simp [List.getD_eq_getElem?_getD, h2]
theorem putL_step (zs : List Int) (off len : Nat) (x : Int) {k : Nat} (hk : k < len) : putL zs off len x (k + 1) = (putL zs off len x k).set (off + (len - 1 - k)) (x / 2 ^ (8 * k) % 256) := by
  apply List.ext_getElem (by rw [List.length_set, putL_length, putL_length])
  intro i h1 h2
  rw [List.getElem_set]
  by_cases e : off + (len - 1 - k) = i
  · subst e
    rw [if_pos rfl]
    simp only [putL, List.getElem_map, List.getElem_range]
    rw [if_pos (by omega)]
    congr 3
    omega
  · rw [if_neg e]
    simp only [putL, List.getElem_map, List.getElem_range]
    by_cases q : off + len - k ≤ i ∧ i < off + len
    · rw [if_pos (by omega), if_pos q]
    · rw [if_neg (by omega), if_neg q]
theorem put_any (g off len cap : Nat) (t : TypeId) (zs : List Int) (x : Int) (w : World) (hx : 0 ≤ x) (hx' : x < 18446744073709551616) (hr : Row w g t .u8 zs) (hl : off + len ≤ zs.length) (hn : len ≤ 8) :
    Calls Tryz.prog 123 #[.slice (some ⟨g, off, none⟩) len cap, .int .u64 x] w fun e w' => e = .returned (.tuple #[]) ∧ Row w' g t .u8 (putL zs off len x len) ∧ w.grownBy w' (some g) := by
  go_enter Tryz.func123, Tryz.ntmps123
  go_wp2_with fail
  go_loopw [7] (fun i wr => ∃ k : Nat, k ≤ len ∧ i = .int .i64 k ∧ w.grownBy wr (some g) ∧ Row wr g t .u8 (putL zs off len x k)) (fun i _ => len - (intOf i).toNat)
  case atStart => exact ⟨0, by omega, rfl, World.grownBy.refl _ _, by rw [putL_start]; exact hr⟩
  case round =>
    obtain ⟨k, hk, rfl, hg, hq⟩ := hrel
    by_cases hlt : k < len
    · have HS := Lib.hid (show Row (wr.setCell ⟨g, off + (len - 1 - k), none⟩ (.int .u8 (x / 2 ^ (8 * k) % 256))) g t .u8 (putL zs off len x (k + 1)) by
        rw [putL_step _ _ _ _ hlt]
        exact hq.set _ (by simp [Lit.wf, IntKind.min, IntKind.max, IntKind.signed, IntKind.bits]; omega))
      obtain ⟨old, hc⟩ : ∃ old, wr.cell? ⟨g, off + (len - 1 - k), none⟩ = some old := ⟨_, hq.cell (by rw [putL_length]; omega)⟩
      have hf := hq.frozen (off + (len - 1 - k))
      have hlt' : (k : Int) < (len : Int) := by omega
      have hk0 : (0 : Int) ≤ (k : Int) := by omega
      have hk7 : (k : Int) ≤ 7 := by omega
      have hn8 : (len : Int) ≤ 8 := by omega
      have e1 := Lib.hid (show (len : Int) - 1 - (k : Int) = ((len - 1 - k : Nat) : Int) by omega)
      go_wp2_with fail
      go_roundw
      case rel => exact ⟨k + 1, by omega, by go_num, hg.trans (grown_setCell _ _ _ _), HS.out⟩
      case measure => simp [intOf]; omega
    · have hkl : k = len := by omega
      subst hkl
      go_wp2_with fail
      go_end0
      exact ⟨rfl, hq, hg⟩
theorem pad_eq (n : Nat) (hn : n ≤ 17592186044416) :
    putL ((List.replicate (9 + (119 - n % 64) % 64) (0 : Int)).set 0 128) (1 + (119 - n % 64) % 64) 8 ((n : Int) * 8) 8 = padI n := by
  apply List.ext_getElem (by rw [putL_length, pad_length]; simp)
  intro i h1 h2
  rw [putL_length] at h1
  simp only [putL, List.getElem_map, List.getElem_range, padI]
  by_cases q : 1 + (119 - n % 64) % 64 ≤ i ∧ i < 1 + (119 - n % 64) % 64 + 8
  · rw [if_pos (by omega), List.getElem_cons, dif_neg (by omega), List.getElem_append_right (by simp; omega)]
    simp only [List.length_replicate, List.getElem_map, List.getElem_range]
    have e : 8 * (1 + (119 - n % 64) % 64 + 8 - 1 - i) = 56 - 8 * (i - 1 - (119 - n % 64) % 64) := by omega
    rw [e]
    congr 2
    omega
  · simp only [List.length_set, List.length_replicate] at h1
    rw [if_neg (by omega)]
    by_cases z : i = 0
    · subst z
      simp [List.getD_eq_getElem?_getD, show 0 < 9 + (119 - n % 64) % 64 by omega]
    · rw [List.getElem_cons, dif_neg z, List.getElem_append_left (by simp; omega)]
      simp only [List.getElem_replicate, List.getD_eq_getElem?_getD]
      rw [List.getElem?_set_ne (by omega)]
      simp [h1]
theorem pad_any (N : Int) (n : Nat) (w : World) (hN : (n : Int) = max N 0) (hn : n ≤ 17592186044416) :
    Calls Tryz.prog 133 #[.int .i64 N] w fun e w' => e = .returned (.slice (some ⟨w.heap.size, 0, none⟩) (padI n).length (padI n).length) ∧ Row w' w.heap.size 5 .u8 (padI n) ∧ Below w.heap.size w w' := by
  have E := Lib.hid (pad_eq n hn)
  have L := Lib.hid (pad_length n)
  have HB := Lib.hid (pad_bytes n)
  obtain ⟨z, hz⟩ : ∃ z, (119 - n % 64) % 64 = z := ⟨_, rfl⟩
  have hz64 : z < 64 := by omega
  have HZ := Lib.hid (show (119 - (n : Int) % 64) % 64 = (z : Int) by omega)
  rw [hz] at E L
  by_cases hneg : N < 0
  · have e : n = 0 := by omega
    subst e
    have hz55 : z = 55 := by omega
    subst hz55
    have hmx : ¬ (0 : Int) ≤ N := by omega
    clear hN hz HZ
    go_enter Tryz.func133, Tryz.ntmps133
    go_wp2_with (refine wpList_make_Row _ rfl _ _ 27 rfl 5 .u8 1 Tryz.underlying27 info_u8 .i64 .i64 _ _ 64 rfl rfl (by omega) (by omega) (by omega) (by omega) ?_; intro w1 hr1 hg1 hs1; obtain ⟨old, hc0⟩ : ∃ old, w1.cell? ⟨w.heap.size, 0, none⟩ = some old := ⟨_, hr1.cell (by simp)⟩; have hf0 := hr1.frozen 0)
    have hr2 := hr1.set 0 (z := 128) (by decide)
    have hb2 : Below w.heap.size w (w1.setCell ⟨w.heap.size, 0, none⟩ (.int .u8 128)) := ((Below.refl _ w).grown hg1 (Nat.le_refl _) (by simp)).setCell (Nat.le_refl _) _
    refine (put_any _ _ 8 8 _ _ _ _ (by omega) (by omega) hr2 (by simp) (by omega)).mono ?_
    rintro e w2 ⟨rfl, hr3, hg3⟩
    have E' := E.out
    simp only [Int.natCast_zero, Int.zero_mul] at E'
    rw [show (64 : Nat) = 9 + 55 from rfl, show (56 : Nat) = 1 + 55 from rfl, E'] at hr3
    have hb3 := hb2.grown hg3 (by simp [World.setCell]; omega) (fun r e => by cases e; exact Nat.le_refl _)
    clear hr2 hb2 hg3 E'
    go_wp2_with fail
    go_ret
    have e9 : 64 = (padI 0).length := L.out.symm
    refine ⟨?_, hr3, hb3⟩
    rw [← e9]
    rfl
  · have e : N = (n : Int) := by omega
    subst e
    have hnn : (n : Int) ≤ 17592186044416 := by omega
    have hn0 : (0 : Int) ≤ (n : Int) := by omega
    have hz1 : (119 - (n : Int)) % 64 = (z : Int) := by omega
    have hz2 : (119 - (n : Int) % 64) % 64 = (z : Int) := by omega
    have hzi : (z : Int) < 64 := by omega
    clear hN hz hneg HZ
    have u8w : ∀ y ∈ (List.replicate (9 + z) (0 : Int)), (Lit.int .u8 y).wf = true := fun y hy => by rw [List.eq_of_mem_replicate hy]; rfl
    go_enter Tryz.func133, Tryz.ntmps133
    go_wp2_with (refine wpList_make_Row _ rfl _ _ 27 rfl 5 .u8 1 Tryz.underlying27 info_u8 .i64 .i64 _ _ (9 + z) rfl rfl (by omega) (by omega) (by omega) (by omega) ?_; intro w1 hr1 hg1 hs1; obtain ⟨old, hc0⟩ : ∃ old, w1.cell? ⟨w.heap.size, 0, none⟩ = some old := ⟨_, hr1.cell (by simp; omega)⟩; have hf0 := hr1.frozen 0)
    have hr2 := hr1.set 0 (z := 128) (by decide)
    have hb2 : Below w.heap.size w (w1.setCell ⟨w.heap.size, 0, none⟩ (.int .u8 128)) := ((Below.refl _ w).grown hg1 (Nat.le_refl _) (by simp)).setCell (Nat.le_refl _) _
    have e8 : 9 + z - (1 + z) = 8 := by omega
    rw [e8]
    refine (put_any _ _ 8 8 _ _ _ _ (by omega) (by omega) hr2 (by simp; omega) (by omega)).mono ?_
    rintro e w2 ⟨rfl, hr3, hg3⟩
    rw [E.out] at hr3
    have hb3 := hb2.grown hg3 (by simp [World.setCell]; omega) (fun r e => by cases e; exact Nat.le_refl _)
    clear hr2 hb2 hg3 e8
    go_wp2_with fail
    go_ret
    have e9 : 9 + z = (padI n).length := L.out.symm
    refine ⟨?_, hr3, hb3⟩
    rw [← e9]
    rfl
theorem info_k : (Tryz.prog.info? 149).map (·.size) = some 64 := by kernel_rfl
theorem wf_K : ∀ z ∈ Sum.K, (Lit.int .u32 z).wf = true := by decide +kernel
set_option maxRecDepth 100000 in
theorem rwords_any (w : World) :
    Calls Tryz.prog 115 #[] w fun e w' => e = .returned (.agg (arr .u32 Sum.K)) ∧ Below w.heap.size w w' := by
  have r0 := Row.new (zs := List.replicate 64 0) (k := .u32) w 149 (fun z hz => by rw [List.eq_of_mem_replicate hz]; rfl)
  go_enter Tryz.func115, Tryz.ntmps115
  go_wp2_with (first
    | (refine wpList_build_Row rfl 149 _ rfl .u32 Sum.K (by kernel_rfl) ?_)
    | (refine wpList_store_Row rfl 149 _ _ rfl w.heap.size rfl 149 .u32 _ Sum.K rfl r0 64 info_k rfl rfl ?_))
  have r1 := r0.setRow wf_K
  refine bodyPost_ret (v := .agg (arr .u32 Sum.K)) (results_Row rfl _ _ w.heap.size _ _ _ rfl r1 64 57 Tryz.underlying149 info_k rfl) rfl ?_
  exact ⟨rfl, ((Below.refl _ w).alloc (Nat.le_refl _) _).grown (grown_setRow _ _ _) (by simp) (fun r e => by cases e; exact Nat.le_refl _)⟩
end Go.Proofs.YtjelacblnjbfgaaGreatDoor.Sha
namespace Go.Proofs.YtjelacblnjbfgaaGreatDoor.Sha
open Go.RowKit Mem Help Go.Proofs.YtjelacblnjbfgaaGreatDoor.Sum
theorem info_bytes : (Tryz.prog.info? 27).map (fun i => (i.zero, i.size, i.bytes)) = some (some (.slice none 0 0), 1, 24) := by kernel_rfl
theorem ownBlock_ge {base n size : Nat} {v : Value} {w : World} {e : TypeId} {xs : List Value}
    (h : (v = .slice none 0 0 ∧ n = 0) ∨ ∃ g cap cur, v = .slice (some ⟨g, 0, none⟩) n cap ∧ base ≤ g ∧ w.heap[g]? = some (.cells cur e (0, 0)) ∧ n ≤ cap ∧ cap ≤ maxLen ∧ cur.size = cap * size ∧ cur.toList.take (n * size) = xs) {r : Nat}
    (hr : v.ownBlock = some r) : base ≤ r := by
  rcases h with ⟨rfl, _⟩ | ⟨g, cap, cur, rfl, hb, _⟩
  · simp [Value.ownBlock] at hr
  · simp only [Value.ownBlock, Option.some.injEq] at hr
    omega
set_option maxRecDepth 100000 in
theorem grow_any (n : Nat) (w : World) (h0 : 0 < n) (hn : n ≤ 1099511627776) :
    Calls Tryz.prog 134 #[.slice none 0 0, .int .i64 (n : Int)] w fun e w' => ∃ cap, e = .returned (.slice (some ⟨w.heap.size, 0, none⟩) 0 cap) ∧ n ≤ cap ∧
      w'.ownsRow w.heap.size 27 1 (.slice (some ⟨w.heap.size, 0, none⟩) 0 cap) 0 [] ∧ w.grownBy w' none := by
  obtain ⟨cap, w1, hrun, hc, hown, hg, hm⟩ := run_grow_nil (P := Tryz.prog) w 89 3 89 27 (.slice none 0 0) 24 .i64 Tryz.underlying89 Tryz.underlying3 info_bytes rfl n h0 hn (by omega)
  have hn' : (n : Int) ≤ 1099511627776 := by omega
  have h0' : (0 : Int) < (n : Int) := by omega
  go_enter Tryz.func134, Tryz.ntmps134
  go_wp2_with (at_builtin; refine Lib.wpList_append_run _ rfl _ _ 89 3 rfl _ _ rfl rfl _ _ hrun ?_)
  go_ret
  exact ⟨cap, rfl, hc, hown, hg⟩
theorem concat_any (B : Nat) (A A0 A1 : Option Addr) (c n0 n1 c0 c1 : Nat) (vs0 vs1 : List Value) (w : World) (h : Vals w B A 2 [.slice A0 n0 c0, .slice A1 n1 c1]) (h0 : Vals w B A0 n0 vs0) (h1 : Vals w B A1 n1 vs1) (hB : B ≤ w.heap.size)
    (hn0 : n0 ≤ 68719476736) (hn1 : n1 ≤ 68719476736) (hp : 0 < n0 + n1) :
    Calls Tryz.prog 132 #[.slice A 2 c] w fun e w' => ∃ v, e = .returned v ∧ w'.ownsRow w.heap.size 27 1 v (n0 + n1) (vs0 ++ vs1) ∧ Below w.heap.size w w' := by
  obtain ⟨b, off, rfl, hb, ca⟩ := h.at_ (i := 0) (by omega)
  obtain ⟨b', off', e', hb', cb⟩ := h.at_ (i := 1) (by omega)
  injection e' with e'
  injection e' with e1 e2
  subst e1
  subst e2
  clear h
  simp only [List.getD_eq_getElem?_getD, List.getElem?_cons_zero, List.getElem?_cons_succ, Option.getD_some, Nat.add_zero] at ca cb
  have hn0' : (n0 : Int) ≤ 68719476736 := by omega
  have hn1' : (n1 : Int) ≤ 68719476736 := by omega
  go_enter Tryz.func132, Tryz.ntmps132
  go_wp2_with fail
  go_loop [3, 11] (fun s i => (i = .int .i64 0 ∧ s = .int .i64 0) ∨ (i = .int .i64 1 ∧ s = .int .i64 (n0 : Int)) ∨ (i = .int .i64 2 ∧ s = .int .i64 ((n0 : Int) + n1))) (fun _ i => 2 - (intOf i).toNat)
  case atStart => exact .inl ⟨rfl, rfl⟩
  case round =>
    rcases hrel with ⟨rfl, rfl⟩ | ⟨rfl, rfl⟩ | ⟨rfl, rfl⟩
    · go_wp2_with fail
      go_round
      case rel => exact .inr (.inl ⟨rfl, rfl⟩)
      case measure => simp [intOf]
    · go_wp2_with fail
      go_round
      case rel => exact .inr (.inr ⟨rfl, rfl⟩)
      case measure => simp [intOf]
    · go_wp2_with fail
      have en : (n0 : Int) + (n1 : Int) = ((n0 + n1 : Nat) : Int) := by omega
      rw [en]
      refine (grow_any (n0 + n1) _ hp (by omega)).mono ?_
      rintro e w1 ⟨cap, rfl, hcap, hown, hg⟩
      have s1 := hg.size
      have hb1 : Below w.heap.size w w1 := (Below.refl _ w).grown hg (Nat.le_refl _) (by simp)
      clear en hg
      go_wp2_with fail
      go_loopw [6, 27] (fun v i wr => Below w.heap.size w wr ∧ w1.heap.size ≤ wr.heap.size ∧ ((i = .int .i64 0 ∧ wr.ownsRow w.heap.size 27 1 v 0 []) ∨ (i = .int .i64 1 ∧ wr.ownsRow w.heap.size 27 1 v n0 vs0) ∨ (i = .int .i64 2 ∧ wr.ownsRow w.heap.size 27 1 v (n0 + n1) (vs0 ++ vs1)))) (fun _ i _ => 2 - (intOf i).toNat)
      case atStart => exact ⟨hb1, Nat.le_refl _, .inl ⟨rfl, hown⟩⟩
      case round =>
        obtain ⟨hbl, hs, hrel⟩ := hrel
        have ca1 := (hbl.cell (p := ⟨b, off, none⟩) (by show b < _; omega)).trans ca
        have cb1 := (hbl.cell (p := ⟨b, off + 1, none⟩) (by show b < _; omega)).trans cb
        have v0 := (h0.more hB).below hbl
        have v1 := (h1.more hB).below hbl
        have hz := hbl.size
        clear ca cb h0 h1 hb1 hown
        rcases hrel with ⟨rfl, hown⟩ | ⟨rfl, hown⟩ | ⟨rfl, hown⟩
        · go_wp2_with (at_builtin; refine wpList_append_vals _ rfl _ _ 89 rfl w.heap.size 27 (.slice none 0 0) 24 Tryz.underlying89 info_bytes rfl _ 0 [] rfl hown w.heap.size A0 n0 c0 vs0 rfl v0 (by omega) (by omega) hz ?_; intro v' w' hown' hg' hat')
          go_roundw
          case rel => exact ⟨hbl.grown hg' hz (fun r e => ownBlock_ge hown.2 e), by have := hg'.size; omega, .inr (.inl ⟨rfl, by simpa using hown'⟩)⟩
          case measure => simp [intOf]
        · go_wp2_with (at_builtin; refine wpList_append_vals _ rfl _ _ 89 rfl w.heap.size 27 (.slice none 0 0) 24 Tryz.underlying89 info_bytes rfl _ n0 vs0 rfl hown w.heap.size A1 n1 c1 vs1 rfl v1 (by omega) (by omega) hz ?_; intro v' w' hown' hg' hat')
          go_roundw
          case rel => exact ⟨hbl.grown hg' hz (fun r e => ownBlock_ge hown.2 e), by have := hg'.size; omega, .inr (.inr ⟨rfl, hown'⟩)⟩
          case measure => simp [intOf]
        · go_wp2_with fail
          go_ret
          exact ⟨_, rfl, hown, hbl⟩
end Go.Proofs.YtjelacblnjbfgaaGreatDoor.Sha
namespace Go.Proofs.YtjelacblnjbfgaaGreatDoor.Sha
open Go.RowKit Mem Help Go.Proofs.YtjelacblnjbfgaaGreatDoor.Sum
section
variable {w w' : World} {B B' : Nat} {vs us : List Value} {xss yss : List (List Int)}
end
theorem padded_any (B : Nat) (A : Option Addr) (m c : Nat) (vs : List Value) (xss : List (List Int)) (w : World) (h : Vals w B A m vs) (ht : Texts w B vs xss) (hB : B ≤ w.heap.size) (hm : m ≤ 1073741824) (hn : xss.flatten.length ≤ 1099511627776) :
    Calls Tryz.prog 126 #[.slice A m c] w fun e w' => ∃ v, e = .returned v ∧ w'.ownsRow w.heap.size 27 1 v (m + 1) (vs ++ [.slice (some ⟨w.heap.size, 0, none⟩) (padI xss.flatten.length).length (padI xss.flatten.length).length]) ∧
      Row w' w.heap.size 5 .u8 (padI xss.flatten.length) ∧ Below w.heap.size w w' := by
  have hm' : (m : Int) ≤ 1073741824 := by omega
  have HV := Lib.hid h.1
  have HX := Lib.hid ht.1
  have HN := Lib.hid hn
  go_enter Tryz.func126, Tryz.ntmps126
  go_wp2_with fail
  go_loop [3, 8] (fun s i => ∃ k : Nat, k ≤ m ∧ i = .int .i64 k ∧ ∃ q : Nat, s = .int .i64 q ∧ Hid (q = (xss.take k).flatten.length)) (fun _ i => m - (intOf i).toNat)
  case atStart => exact ⟨0, by omega, rfl, 0, rfl, Lib.hid (by simp)⟩
  case round =>
    obtain ⟨k, hk, rfl, q, rfl, hq⟩ := hrel
    have hq0 : q ≤ 1099511627776 := by have := hq.out; have := flat_le xss k; omega
    by_cases hlt : k < m
    · obtain ⟨b, off, rfl, hb, hc⟩ := h.at_ hlt
      obtain ⟨A1, n1, c1, e1, hc1, hm1, hi1⟩ := ht.2 k (by rw [HV.out]; exact hlt)
      rw [e1] at hc
      have HQ := Lib.hid (show q + n1 = (xss.take (k + 1)).flatten.length by rw [flat_take xss (by have := HV.out; have := HX.out; omega), hi1.1, ← hq.out])
      have hq1 : q + n1 ≤ 1099511627776 := by have := HQ.out; have := flat_le xss (k + 1); omega
      have hlt' : (k : Int) < (m : Int) := by omega
      have hk0 : (0 : Int) ≤ (k : Int) := by omega
      have hq1' : (q : Int) + (n1 : Int) ≤ 1099511627776 := by omega
      clear e1 hi1
      go_wp2_with fail
      go_round
      case rel => exact ⟨k + 1, by omega, by go_num, q + n1, by go_num, HQ⟩
      case measure => simp [intOf]; omega
    · have hkm : k = m := by omega
      subst hkm
      have hqn : Hid (q = xss.flatten.length) := by
        have := hq.out
        rw [List.take_of_length_le (by have := HV.out; have := HX.out; omega)] at this
        exact Lib.hid this
      clear hq
      go_wp2_with fail
      refine (pad_any (q : Int) q _ (by omega) (by omega)).mono ?_
      rintro e w1 ⟨rfl, hr1, hb1⟩
      go_wp2_with fail
      have s1 := hb1.size
      have hw : w.heap.size < w1.heap.size := hr1.lt
      have p1 := (Vals.new w1 27 [.slice (some ⟨w.heap.size, 0, none⟩) (padI q).length (padI q).length] (by simp [Value.oneCell'])).alloc (by simp) (.cells #[.slice A k c, .slice (some ⟨w1.heap.size, 0, none⟩) 1 1] 89)
      have p2 := Vals.new (w1.alloc (.cells [.slice (some ⟨w.heap.size, 0, none⟩) (padI q).length (padI q).length].toArray 27)) 89 [.slice A k c, .slice (some ⟨w1.heap.size, 0, none⟩) 1 1] (by simp [Value.oneCell'])
      have b3 : Below w.heap.size w ((w1.alloc (.cells #[.slice (some ⟨w.heap.size, 0, none⟩) (padI q).length (padI q).length] 27)).alloc (.cells #[.slice A k c, .slice (some ⟨w1.heap.size, 0, none⟩) 1 1] 89)) := (hb1.alloc s1 _).alloc (by simp; omega) _
      have p0 := (h.below (b3.mono hB)).more (B' := w1.heap.size + 1 + 1) (by omega)
      have r3 := (hr1.alloc (.cells #[.slice (some ⟨w.heap.size, 0, none⟩) (padI q).length (padI q).length] 27)).alloc (.cells #[.slice A k c, .slice (some ⟨w1.heap.size, 0, none⟩) 1 1] 89)
      rw [World.size_alloc] at p2
      refine (concat_any (w1.heap.size + 1 + 1) _ A _ 2 k 1 c 1 vs _ _ p2 p0 (p1.more (by omega)) (by simp) (by omega) (by omega) (by omega)).mono ?_
      rintro e w4 ⟨v, rfl, hown, hb4⟩
      have hz4 := hb4.size
      rw [World.size_alloc, World.size_alloc] at hz4
      have hown' : w4.ownsRow w.heap.size 27 1 v (k + 1) (vs ++ [.slice (some ⟨w.heap.size, 0, none⟩) (padI q).length (padI q).length]) := by
        refine ⟨hown.1, ?_⟩
        rcases hown.2 with hh | ⟨g, cap, cur, e, hge, rest⟩
        · exact .inl hh
        · rw [World.size_alloc, World.size_alloc] at hge
          exact .inr ⟨g, cap, cur, e, by omega, rest⟩
      have T4 := r3.below hb4 (by simp; omega)
      rw [hqn.out] at T4 hown'
      have b4 := b3.trans (hb4.mono (by simp; omega))
      clear p0 p1 p2 r3 b3 hown hb4 hr1 hb1 h ht
      go_wp2_with fail
      go_ret
      exact ⟨v, rfl, hown', T4, b4⟩
end Go.Proofs.YtjelacblnjbfgaaGreatDoor.Sha
namespace Go.Proofs.YtjelacblnjbfgaaGreatDoor.Sha
open Go.RowKit Go.Shelf Mem Help Go.Proofs.YtjelacblnjbfgaaGreatDoor.Sum Go.Proofs.YtjelacblnjbfgaaGreatDoor.Range
attribute [local go_sem] Oper.semAt_some
def chunks (m : List Int) : List (List Int) := (List.range (m.length / 64)).map fun i => (m.drop (64 * i)).take 64
theorem chunks_length (m : List Int) : (chunks m).length = m.length / 64 := by simp [chunks]
theorem chunks_take (m : List Int) {j : Nat} (h : 64 * (j + 1) ≤ m.length) : (chunks m).take j ++ [(m.drop (64 * j)).take 64] = (chunks m).take (j + 1) := by
  have hj : j < (chunks m).length := by rw [chunks_length]; omega
  rw [List.take_succ_eq_append_getElem hj]
  simp [chunks]
theorem chunks_mem {m x : List Int} (h : x ∈ chunks m) : x.length = 64 ∧ ∀ z ∈ x, z ∈ m := by
  simp only [chunks, List.mem_map, List.mem_range] at h
  obtain ⟨i, hi, rfl⟩ := h
  exact ⟨by rw [List.length_take, List.length_drop]; omega, fun z hz => List.mem_of_mem_drop (List.mem_of_mem_take hz)⟩
def Blk (m : List Int) (p : Nat) (cur : List Int) : Prop := cur.length = 64 ∧ cur.take (p % 64) = (m.drop (64 * (p / 64))).take (p % 64)
theorem Blk.step {m cur : List Int} {p n k : Nat} (h : Blk m p cur) (hk : k = min n (64 - p % 64)) (hn : p + n ≤ m.length) (h0 : 0 < n) :
    (cur.take (p % 64) ++ (((m.drop p).take n).take k ++ cur.drop (p % 64 + k))).length = 64 ∧ ((p + k) % 64 ≠ 0 → Blk m (p + k) (cur.take (p % 64) ++ (((m.drop p).take n).take k ++ cur.drop (p % 64 + k)))) ∧
      ((p + k) % 64 = 0 → cur.take (p % 64) ++ (((m.drop p).take n).take k ++ cur.drop (p % 64 + k)) = (m.drop (64 * (p / 64))).take 64) := by
  obtain ⟨hl, ht⟩ := h
  have hp : p % 64 < 64 := Nat.mod_lt _ (by omega)
  have hc : (cur.take (p % 64)).length = p % 64 := by simp; omega
  have hd : (((m.drop p).take n).take k).length = k := by simp; omega
  have e1 : cur.take (p % 64) ++ ((m.drop p).take n).take k = (m.drop (64 * (p / 64))).take (p % 64 + k) := by
    rw [ht, List.take_take, Nat.min_eq_left (by omega), List.take_add, List.drop_drop]
    congr 3
    omega
  have hlen : (cur.take (p % 64) ++ (((m.drop p).take n).take k ++ cur.drop (p % 64 + k))).length = 64 := by
    rw [List.length_append, List.length_append, hc, hd, List.length_drop]; omega
  refine ⟨hlen, fun hne => ⟨hlen, ?_⟩, fun he => ?_⟩
  · have hlt : p % 64 + k < 64 := by omega
    have e2 : (p + k) % 64 = p % 64 + k := by omega
    have e3 : (p + k) / 64 = p / 64 := by omega
    rw [e2, e3, ← e1, ← List.append_assoc, List.take_left' (by rw [List.length_append, hc, hd])]
  · have hk64 : p % 64 + k = 64 := by omega
    have ed : cur.drop 64 = [] := List.drop_of_length_le (by omega)
    rw [hk64, ed, List.append_nil, e1, hk64]
theorem Blk.next {m cur : List Int} {p : Nat} (hl : cur.length = 64) (h : p % 64 = 0) : Blk m p cur := ⟨hl, by rw [h]; simp⟩
theorem blocks_any (A : Option Addr) (m c : Nat) (w : World) :
    Calls Tryz.prog 121 #[.slice A m c] w fun e w' => e = .returned (.func (.func 125) #[] #[.pointer (some ⟨w.heap.size, 0, none⟩)]) ∧ w' = w.alloc (.cells #[.slice A m c] 89) := by
  go_enter Tryz.func121, Tryz.ntmps121
  go_wp2
  go_ret
  exact ⟨rfl, rfl⟩
set_option maxRecDepth 100000 in
set_option maxHeartbeats 2000000 in
theorem iter_far (n st bx B : Nat) (A : Option Addr) (m c : Nat) (vs : List Value) (xss : List (List Int)) (w : World) (hbx : w.cell? ⟨bx, 0, none⟩ = some (.slice A m c)) (h : Vals w B A m vs) (ht : Texts w B vs xss)
    (hB : B ≤ st) (hst : st < w.heap.size) (hm : m ≤ 1073741824) (hn : xss.flatten.length ≤ 1099511627776) :
    SeqFar Fence.wide n Tryz.prog 125 #[.pointer (some ⟨bx, 0, none⟩)] (fun bs => #[.agg (arr .u8 bs)]) (Only (· = st)) (chunks (xss.flatten ++ padI xss.flatten.length)) w := by
  intro l J W hW hJ hY h0
  have hbx' := (hW.cell (p := ⟨bx, 0, none⟩) (World.block_lt_of_cell? w _ hbx)).trans hbx
  have hs := hW.size
  have h1 := (h.below (hW.mono (by omega))).alloc (by omega) (.cells (arr .u8 (List.replicate 64 0)) 88)
  have ht1 := (ht.below (hW.mono (by omega)) : Texts W B vs xss).keep (w' := W.alloc (.cells (arr .u8 (List.replicate 64 0)) 88)) (fun p hp => World.cell?_alloc_lt W _ p (by omega))
  have hbx1 : ∀ o, (W.alloc o).cell? ⟨bx, 0, none⟩ = some (.slice A m c) := fun o => (World.cell?_alloc_lt W o _ (World.block_lt_of_cell? W _ hbx')).trans hbx'
  refine callsIn_of_wp Tryz.func125 rfl trivial ?_ rfl
  simp only [Tryz.ntmps125, List.size_toArray, List.length_cons, List.length_nil, Nat.reduceAdd, Nat.reduceSub, Array.replicate_succ, Array.replicate_zero, List.push_toArray, List.append_toArray, List.nil_append, List.cons_append]
  gi_wp2_with fail
  refine ⟨trivial, fun h => (by cases h), ?_⟩
  refine (callsIn_wide.2 (padded_any B A m c vs xss _ h1 ht1 (by simp; omega) hm hn)).mono ?_
  rintro e w2 ⟨v2, rfl, hown, hpad, hb2⟩
  have nb : Row (W.alloc (.cells (arr .u8 (List.replicate 64 0)) 88)) W.heap.size 88 .u8 (List.replicate 64 0) := Row.new W _ (fun z hz => by rw [List.eq_of_mem_replicate hz]; rfl)
  have rb := nb.below hb2 (by simp)
  have hs2 := hb2.size
  have hw2 : Below W.heap.size W w2 := ((Below.refl _ W).alloc (Nat.le_refl _) _).trans (hb2.mono (by simp))
  have hJ2 := hJ [] W w2 none h0 (grown_of_below hw2 none) (fun r e => by cases e)
  rw [World.size_alloc] at hown hpad hs2
  have htn : Texts w2 B vs xss := (ht.below (hW.mono (by omega)) : Texts W B vs xss).below (hw2.mono (by omega))
  obtain ⟨g, cap, rfl, hg1, hg2, hvals⟩ : ∃ g cap, v2 = .slice (some ⟨g, 0, none⟩) (m + 1) cap ∧ W.heap.size + 1 ≤ g ∧ g < w2.heap.size ∧ Vals w2 w2.heap.size (some ⟨g, 0, none⟩) (m + 1) (vs ++ [.slice (some ⟨W.heap.size + 1, 0, none⟩) (padI xss.flatten.length).length (padI xss.flatten.length).length]) := by
    rcases hown.2 with ⟨_, h0⟩ | ⟨g, cap, cur, e, hge, hgg, hnc, hcm, hcs, htk⟩
    · omega
    · subst e
      refine ⟨g, cap, rfl, hge, (Array.getElem?_eq_some_iff.1 hgg).1, ownsRow_vals hown (fun v hv => ?_)⟩
      rcases List.mem_append.1 hv with hv | hv
      · exact htn.one_cell v hv
      · have : v = _ := List.mem_singleton.1 hv
        rw [this]; rfl
  have hS : ∀ b, b < B → ¬ (b = st ∨ b = W.heap.size) := fun b hb e => by omega
  have hall : ∀ k, k ≤ m → ∃ A' n' c', w2.cell? ⟨g, k, none⟩ = some (.slice A' n' c') ∧ n' ≤ c' ∧ c' ≤ maxLen ∧ IntsN w2 .u8 (fun b => b = st ∨ b = W.heap.size) A' n' ((xss ++ [padI xss.flatten.length]).getD k []) := by
    intro k hk
    obtain ⟨b, off, e, _, hc⟩ := hvals.at_ (i := k) (by omega)
    injection e with e
    injection e with e1 e2
    subst e1
    subst e2
    rw [Nat.zero_add] at hc
    by_cases hkm : k < m
    · obtain ⟨A', n', c', e3, h3, h4, h5⟩ := htn.2 k (by rw [h.1]; exact hkm)
      have hkv : k < vs.length := by rw [h.1]; exact hkm
      have hkx : k < xss.length := by rw [← ht.1]; exact hkv
      refine ⟨A', n', c', ?_, h3, h4, ?_⟩
      · rw [hc, ← e3]
        simp [List.getD_eq_getElem?_getD, List.getElem?_append_left hkv]
      · have e4 : (xss ++ [padI xss.flatten.length]).getD k [] = xss.getD k [] := by simp [List.getD_eq_getElem?_getD, List.getElem?_append_left hkx]
        rw [e4]
        exact IntsN.of h5 hS
    · have : k = m := by omega
      subst this
      have hkv : vs.length = k := h.1
      have hkx : xss.length = k := by rw [← ht.1]; exact hkv
      refine ⟨some ⟨W.heap.size + 1, 0, none⟩, (padI xss.flatten.length).length, (padI xss.flatten.length).length, ?_, Nat.le_refl _, ?_, ?_⟩
      · rw [hc]; simp [List.getD_eq_getElem?_getD, hkv]
      · rw [pad_length]; unfold maxLen; omega
      · have e4 : (xss ++ [padI xss.flatten.length]).getD k [] = padI xss.flatten.length := by simp [List.getD_eq_getElem?_getD, hkx]
        rw [e4]
        exact IntsN.row hpad (by omega)
  have hgS : ¬ (g = st ∨ g = W.heap.size) := by omega
  have hbS : ¬ W.heap.size = st := by omega
  clear hvals hown hpad htn nb hb2 h1 ht1 hbx1 hbx' hbx
  obtain ⟨yss, hyss⟩ : ∃ yss, xss ++ [padI xss.flatten.length] = yss := ⟨_, rfl⟩
  have hyl : yss.length = m + 1 := by rw [← hyss, List.length_append, ← ht.1, h.1]; rfl
  have hmsg : xss.flatten ++ padI xss.flatten.length = yss.flatten := by rw [← hyss, List.flatten_append]; simp
  have hwhole : yss.flatten.length % 64 = 0 := by rw [← hmsg, List.length_append]; exact pad_whole _
  have hbig : yss.flatten.length ≤ 1099511627776 + 128 := by rw [← hmsg, List.length_append, pad_length]; omega
  rw [hyss] at hall
  rw [hmsg] at hY
  have HM := Lib.hid hmsg
  clear hyss hmsg h ht hn
  have HW := Lib.hid hwhole
  have HY := Lib.hid hyl
  clear hwhole hyl
  have hm' : (m : Int) ≤ 1073741824 := by omega
  gi_wp2_with fail
  gi_loopw [4, 11] (fun f i wr => ∃ k p : Nat, k ≤ m + 1 ∧ i = .int .i64 k ∧ Hid (p = (yss.take k).flatten.length) ∧ f = .int .i64 ((p % 64 : Nat) : Int) ∧ J ((chunks yss.flatten).take (p / 64)) wr ∧ Only (fun b => b = st ∨ b = W.heap.size) w2 wr ∧
    ∃ cur, Row wr W.heap.size 88 .u8 cur ∧ Hid (Blk yss.flatten p cur)) (fun _ i _ => m + 1 - (intOf i).toNat)
  case atStart => exact ⟨0, 0, by omega, rfl, Lib.hid (by simp), rfl, by simpa using hJ2, Only.refl _ _, _, rb, Lib.hid ⟨by simp, by simp⟩⟩
  case round =>
    obtain ⟨k, p, hk, rfl, hp, rfl, hJp, hon, cur, hcur, hblk⟩ := hrel
    by_cases hlt : k < m + 1
    · obtain ⟨A1, n1, c1, hc1, hn1, hm1, hi1⟩ := hall k (by omega)
      have hc1' := hon.cell (p := ⟨g, k, none⟩) hgS hc1
      have hlt' : (k : Int) < (m : Int) + 1 := by omega
      have hk0 : (0 : Int) ≤ (k : Int) := by omega
      have hkl : k < yss.length := by rw [HY.out]; exact hlt
      have hq : p + n1 = (yss.take (k + 1)).flatten.length := by rw [flat_take yss hkl, hi1.1, ← hp.out]
      have hqm := flat_le yss (k + 1)
      have htx := flat_get yss k hkl
      rw [hi1.1, ← hp.out] at htx
      rw [htx] at hi1
      obtain ⟨q, hq2⟩ : ∃ q, (yss.take (k + 1)).flatten.length = q := ⟨_, rfl⟩
      have HQ2 := Lib.hid hq2.symm
      rw [hq2] at hq hqm
      clear hq2
      have HQ := Lib.hid hq
      clear hq htx hp hc1 hall
      gi_wp2_with fail
      gi_loopw [4, 6] (fun f a wr => ∃ p n' : Nat, ∃ A' c', f = .int .i64 ((p % 64 : Nat) : Int) ∧ a = .slice A' n' c' ∧ n' ≤ c' ∧ c' ≤ maxLen ∧ Hid (p + n' = q) ∧ IntsN w2 .u8 (fun b => b = st ∨ b = W.heap.size) A' n' ((yss.flatten.drop p).take n') ∧
        J ((chunks yss.flatten).take (p / 64)) wr ∧ Only (fun b => b = st ∨ b = W.heap.size) w2 wr ∧ ∃ cur, Row wr W.heap.size 88 .u8 cur ∧ Hid (Blk yss.flatten p cur)) (fun _ a _ => lenV a)
      case atStart => exact ⟨p, n1, A1, c1, rfl, rfl, hn1, hm1, HQ, hi1, hJp, hon, cur, hcur, hblk⟩
      case round =>
        clear hi1 hJp hon hcur hblk hn1 hm1 HQ
        obtain ⟨p, n', A', c', rfl, rfl, hn1, hm1, hq, hi1, hJp, hon, cur, hcur, hblk⟩ := hrel
        by_cases hpos : 0 < n'
        · obtain ⟨b, off, rfl, hbN, hcc⟩ := hi1.2.2 hpos
          have hcw : ∀ i, i < n' → wr.cell? ⟨b, off + i, none⟩ = some (.int .u8 (((yss.flatten.drop p).take n').getD i 0)) := fun i hi => hon.cell (p := ⟨b, off + i, none⟩) hbN (hcc i hi)
          obtain ⟨mm, hmm⟩ : ∃ mm, min n' (64 - p % 64) = mm := ⟨_, rfl⟩
          have hstep := hblk.out.step (n := n') hmm.symm (by have := hq.out; omega) hpos
          have HST := Lib.hid hstep
          have hcl := hblk.out.1
          have hxl := hi1.1
          have HCL := Lib.hid hcl
          have HXL := Lib.hid hxl
          have hf64 : p % 64 < 64 := Nat.mod_lt _ (by omega)
          have hmm1 : 0 < mm := by omega
          have hmm2 : mm ≤ n' := by omega
          have hmm3 : mm ≤ 64 - p % 64 := by omega
          have HMM := Lib.hid hmm
          clear hstep hcl hxl hmm hcc
          obtain ⟨f, hf⟩ : ∃ f, p % 64 = f := ⟨_, rfl⟩
          have hcur' := hcur
          obtain ⟨new, hnew⟩ : ∃ new, cur.take f ++ (((yss.flatten.drop p).take n').take mm ++ cur.drop (f + mm)) = new := ⟨_, rfl⟩
          have r3 : Row (wr.setRow W.heap.size (arr .u8 new)) W.heap.size 88 .u8 new := hcur.setRow (fun z hz => by
            rw [← hnew] at hz
            rcases List.mem_append.1 hz with hz | hz
            · exact hcur.1 z (List.mem_of_mem_take hz)
            · rcases List.mem_append.1 hz with hz | hz
              · exact hi1.2.1 z (List.mem_of_mem_take hz)
              · exact hcur.1 z (List.mem_of_mem_drop hz))
          have o3 : Only (fun b => b = st ∨ b = W.heap.size) w2 (wr.setRow W.heap.size (arr .u8 new)) := hon.trans (Only.of_grown (grown_setRow _ _ _) (fun r e => by cases e; exact .inr rfl))
          have J3 := hJ _ _ _ _ hJp (grown_setRow wr W.heap.size (arr .u8 new)) (fun r e => by cases e; exact Nat.le_refl _)
          rw [hf, hnew] at HST
          rw [hf] at HMM hf64 hmm3 ⊢
          have hfi : (f : Int) < 64 := by omega
          have hmi : (mm : Int) ≤ 64 - (f : Int) := by omega
          have hmi0 : (0 : Int) < (mm : Int) := by omega
          have hfi0 : (0 : Int) ≤ (f : Int) := by omega
          have hmi2 : (mm : Int) ≤ (n' : Int) := by omega
          have hsl := fun W' => run_slice_arr_l (P := Tryz.prog) 88 5 64 W.heap.size f W' Tryz.underlying88 (by kernel_rfl) hf64
          have hcutN := hi1.cut hmm2 hn1
          rw [List.drop_take, List.drop_drop] at hcutN
          have HQ' := Lib.hid (show p + mm + (n' - mm) = q by have := hq.out; omega)
          by_cases hz : (p + mm) % 64 = 0
          · have hx := HST.out.2.2 hz
            have e64 : p + mm = 64 * (p / 64 + 1) := by omega
            have htk := chunks_take yss.flatten (j := p / 64) (by have := hq.out; omega)
            obtain ⟨fn, tmps, assign, body, hy, hR⟩ := hY _ new _ J3 (by rw [hx, htk]; exact List.take_prefix _ _)
            have HTK := Lib.hid htk
            have HXX := Lib.hid hx
            have HZ := Lib.hid hz
            have HE := Lib.hid e64
            have hzi : ((f : Int) + (mm : Int)) % 64 = 0 := by omega
            have hz2 := Lib.hid hzi
            clear hx htk e64 hz hzi
            have hL : new.length = 64 := HST.out.1
            have HLn := Lib.hid hL
            clear hL
            have hzb : ((((f : Int) + (mm : Int)) % 64 == 0)) = true := by rw [hz2.out]; rfl
            by_cases hcm : c' = mm
            · rw [if_pos hcm] at hcutN
              subst hcm
              have HQ0 := Lib.hid (show p + c' + 0 = q by have := hq.out; omega)
              have hz0 : IntsN w2 .u8 (fun b => b = st ∨ b = W.heap.size) (some ⟨b, off, none⟩) 0 ((yss.flatten.drop (p + c')).take 0) := ⟨by simp, by simp, fun h => absurd h (by omega)⟩
              gi_wp2_with (first
                | (refine wpListIn_copy_Row rfl _ _ 27 27 rfl 5 Tryz.underlying27 (by kernel_rfl) W.heap.size f (64 - f) (64 - f) (some ⟨b, off, none⟩) n' c' rfl rfl 88 .u8 cur _ hcur (fun _ => ⟨b, off, rfl, hcw⟩) HXL.out c' HMM.out.symm hmm1 (by rw [HCL.out]; omega) ?_; rw [hnew])
                | (refine wpListIn_load_Row rfl 88 _ rfl W.heap.size rfl 88 .u8 new r3 64 5 Tryz.underlying88 info_64 HLn.out ?_))
              all_goals
                refine ⟨fun h => (by cases h), ?_⟩
                refine hR.mono ?_
                rintro e W4 ⟨rfl, J4, k4⟩
                have o4 := o3.trans (k4.mono (fun i e => .inl e))
                have r4 := k4.row hbS r3
                rw [HXX.out, HTK.out] at J4
                gi_wp2_with fail
                go_roundw
                case rel => exact ⟨p + c', 0, _, _, by rw [HZ.out, hz2.out]; rfl, rfl, by omega, by omega, HQ0, hz0, by rw [show (p + c') / 64 = p / 64 + 1 by have := HE.out; omega]; exact J4, o4, new, r4, Lib.hid (Blk.next HLn.out HZ.out)⟩
                case measure => simp [lenV]; omega
            · rw [if_neg hcm] at hcutN
              gi_wp2_with (first
                | (refine wpListIn_copy_Row rfl _ _ 27 27 rfl 5 Tryz.underlying27 (by kernel_rfl) W.heap.size f (64 - f) (64 - f) (some ⟨b, off, none⟩) n' c' rfl rfl 88 .u8 cur _ hcur (fun _ => ⟨b, off, rfl, hcw⟩) HXL.out mm HMM.out.symm hmm1 (by rw [HCL.out]; omega) ?_; rw [hnew])
                | (refine wpListIn_load_Row rfl 88 _ rfl W.heap.size rfl 88 .u8 new r3 64 5 Tryz.underlying88 info_64 HLn.out ?_))
              all_goals
                refine ⟨fun h => (by cases h), ?_⟩
                refine hR.mono ?_
                rintro e W4 ⟨rfl, J4, k4⟩
                have o4 := o3.trans (k4.mono (fun i e => .inl e))
                have r4 := k4.row hbS r3
                rw [HXX.out, HTK.out] at J4
                gi_wp2_with fail
                go_roundw
                case rel => exact ⟨p + mm, n' - mm, _, _, by rw [HZ.out, hz2.out]; rfl, rfl, by omega, by omega, HQ', hcutN, by rw [show (p + mm) / 64 = p / 64 + 1 by have := HE.out; omega]; exact J4, o4, new, r4, Lib.hid (Blk.next HLn.out HZ.out)⟩
                case measure => simp [lenV]; omega
          · have HB := Lib.hid (HST.out.2.1 hz)
            have hzi : ¬ ((f : Int) + (mm : Int)) % 64 = 0 := by omega
            have hzb : (((f : Int) + (mm : Int)) % 64 == 0) = false := by simpa using hzi
            have HD := Lib.hid (show (p + mm) / 64 = p / 64 by omega)
            have HE := Lib.hid (show ((f : Int) + (mm : Int)) % 64 = (((p + mm) % 64 : Nat) : Int) by omega)
            by_cases hcm : c' = mm
            · rw [if_pos hcm] at hcutN
              subst hcm
              have HQ0 := Lib.hid (show p + c' + 0 = q by have := hq.out; omega)
              have hz0 : IntsN w2 .u8 (fun b => b = st ∨ b = W.heap.size) (some ⟨b, off, none⟩) 0 ((yss.flatten.drop (p + c')).take 0) := ⟨by simp, by simp, fun h => absurd h (by omega)⟩
              gi_wp2_with (refine wpListIn_copy_Row rfl _ _ 27 27 rfl 5 Tryz.underlying27 (by kernel_rfl) W.heap.size f (64 - f) (64 - f) (some ⟨b, off, none⟩) n' c' rfl rfl 88 .u8 cur _ hcur (fun _ => ⟨b, off, rfl, hcw⟩) HXL.out c' HMM.out.symm hmm1 (by rw [HCL.out]; omega) ?_; rw [hnew])
              all_goals
                refine ⟨fun _ h => (by cases h), ?_⟩
                gi_wp2_with fail
                go_roundw
                case rel => exact ⟨p + c', 0, _, _, by rw [HE.out], rfl, by omega, by omega, HQ0, hz0, by rw [HD.out]; exact J3, o3, new, r3, HB⟩
                case measure => simp [lenV]; omega
            · rw [if_neg hcm] at hcutN
              gi_wp2_with (refine wpListIn_copy_Row rfl _ _ 27 27 rfl 5 Tryz.underlying27 (by kernel_rfl) W.heap.size f (64 - f) (64 - f) (some ⟨b, off, none⟩) n' c' rfl rfl 88 .u8 cur _ hcur (fun _ => ⟨b, off, rfl, hcw⟩) HXL.out mm HMM.out.symm hmm1 (by rw [HCL.out]; omega) ?_; rw [hnew])
              all_goals
                refine ⟨fun _ h => (by cases h), ?_⟩
                gi_wp2_with fail
                go_roundw
                case rel => exact ⟨p + mm, n' - mm, _, _, by rw [HE.out], rfl, by omega, by omega, HQ', hcutN, by rw [HD.out]; exact J3, o3, new, r3, HB⟩
                case measure => simp [lenV]; omega
        · have hn0 : n' = 0 := by omega
          subst hn0
          have hpq : Hid (p = q) := Lib.hid (by have := hq.out; omega)
          gi_wp2_with fail
          go_roundw
          case rel => exact ⟨k + 1, q, by omega, by go_num, HQ2, by rw [← hpq.out], by rw [← hpq.out]; exact hJp, hon, cur, hcur, by rw [← hpq.out]; exact hblk⟩
          case measure => simp [intOf]; omega
    · have hkm : k = m + 1 := by omega
      subst hkm
      have hpe : p = yss.flatten.length := by
        have := hp.out
        rw [List.take_of_length_le (by rw [HY.out]; omega)] at this
        exact this
      have hall2 : (chunks yss.flatten).take (p / 64) = chunks (xss.flatten ++ padI xss.flatten.length) := by
        rw [HM.out, List.take_of_length_le (by rw [chunks_length, hpe]; omega)]
      have HA := Lib.hid hall2
      clear hall2 hpe
      gi_wp2_with fail
      go_end0
      exact ⟨⟨_, rfl⟩, by rw [← HA.out]; exact hJp⟩
end Go.Proofs.YtjelacblnjbfgaaGreatDoor.Sha
namespace Go.Proofs.YtjelacblnjbfgaaGreatDoor.Sha
open Go.RowKit Go.Shelf Mem Help Go.Proofs.YtjelacblnjbfgaaGreatDoor.Sum Go.Proofs.YtjelacblnjbfgaaGreatDoor.Range
attribute [local go_sem] Oper.semAt_some
theorem prefix_next {m : List Int} {pre : List (List Int)} {x : List Int} (h : (pre ++ [x]) <+: chunks m) : pre.length < m.length / 64 ∧ x = (m.drop (64 * pre.length)).take 64 := by
  obtain ⟨r, hr⟩ := h
  have hl := congrArg List.length hr
  rw [chunks_length] at hl
  simp at hl
  have hlt : pre.length < m.length / 64 := by omega
  refine ⟨hlt, ?_⟩
  have := congrArg (fun l => l[pre.length]?) hr
  simp [chunks, hlt] at this
  exact this
def outPart (h : List Int) (i : Nat) : List Int := (List.range 32).map fun j => if j < 4 * i then (outB h).getD j 0 else 0
theorem outPart_length (h : List Int) (i : Nat) : (outPart h i).length = 32 := by simp [outPart]
theorem outPart_start (h : List Int) : outPart h 0 = List.replicate 32 0 := by
  unfold outPart
  rw [List.map_congr_left (g := fun _ => (0 : Int)) (fun j _ => by rw [if_neg (by omega)])]
  rfl
theorem outPart_end (h : List Int) : outPart h 8 = outB h := by
  apply List.ext_getElem (by simp [outPart, outB])
  intro i h1 h2
  simp only [outPart_length] at h1
  simp [outPart, List.getD_eq_getElem?_getD, h2, show i < 4 * 8 by omega]
theorem outPart_step (h : List Int) {i : Nat} (hi : i < 8) : putL (outPart h i) (4 * i) 4 (h.getD i 0) 4 = outPart h (i + 1) := by
  apply List.ext_getElem (by rw [putL_length, outPart_length, outPart_length])
  intro j h1 h2
  rw [putL_length, outPart_length] at h1
  have hg : ∀ q, (outPart h q)[j]? = some (if j < 4 * q then (outB h).getD j 0 else 0) := fun q => by simp [outPart, h1]
  simp only [putL, List.getElem_map, List.getElem_range]
  have e2 : (outPart h (i + 1))[j] = if j < 4 * (i + 1) then (outB h).getD j 0 else 0 := by
    have := hg (i + 1)
    rw [List.getElem?_eq_getElem (by rw [outPart_length]; exact h1)] at this
    exact Option.some.inj this
  have e3 : (outPart h i).getD j 0 = if j < 4 * i then (outB h).getD j 0 else 0 := by rw [List.getD_eq_getElem?_getD, hg i, Option.getD_some]
  rw [e2, e3]
  by_cases q : 4 * i + 4 - 4 ≤ j ∧ j < 4 * i + 4
  · rw [if_pos q, if_pos (by omega)]
    have ej : j / 4 = i := by omega
    simp [outB, List.getD_eq_getElem?_getD, h1, ej]
    congr 3
    omega
  · rw [if_neg q]
    by_cases z : j < 4 * i
    · rw [if_pos z, if_pos (by omega)]
    · rw [if_neg z, if_neg (by omega)]
theorem info_32 : (Tryz.prog.info? 22).map (·.size) = some 32 := by kernel_rfl
theorem eight_wf {v : List Int} (h : Eight v) : ∀ z ∈ v, (Lit.int .u32 z).wf = true := fun z hz => wf_u32 (h.2 z hz)
def Inv (w : World) (msg : List Int) (pre : List (List Int)) (W : World) : Prop :=
  Row W (w.heap.size + 1) 151 .u32 (blocksI msg pre.length) ∧ Row W w.heap.size 22 .u8 (List.replicate 32 0) ∧ Below w.heap.size w W
theorem Inv.far (w : World) (msg : List Int) {B : Nat} (hB : w.heap.size + 2 ≤ B) : Far B (Inv w msg) := by
  intro pre W W' row h hg hr
  have hne : ∀ i, i < B → some i ≠ row := fun i hi e => by have := hr i e.symm; omega
  refine ⟨h.1.grown hg (hne _ (by omega)), h.2.1.grown hg (hne _ (by omega)), h.2.2.grown hg (by have := h.1.lt; omega) (fun r e => by have := hr r e; omega)⟩
set_option maxRecDepth 100000 in
set_option maxHeartbeats 2000000 in
theorem sum_any (B : Nat) (A : Option Addr) (m c : Nat) (vs : List Value) (xss : List (List Int)) (w : World) (h : Vals w B A m vs) (ht : Texts w B vs xss) (hB : B ≤ w.heap.size) (hm : m ≤ 1073741824) (hn : xss.flatten.length ≤ 1099511627776)
    (hb : Bs xss.flatten) (hT0 : Tab w 2 Sum.H0) (hT1 : Tab w 3 Sum.K) :
    Calls Tryz.prog 119 #[.slice A m c] w fun e w' => e = .returned (.agg (arr .u8 (Sum.sha xss.flatten))) ∧ Below w.heap.size w w' := by
  refine (callsIn_wide (n := 3)).1 ?_
  obtain ⟨t0, fr0, hg0⟩ := hT0
  have l0 := (Array.getElem?_eq_some_iff.1 hg0).1
  have hg1 : ∀ o, (w.alloc o).heap[(2 : Nat)]? = some (.cells (arr .u32 Sum.H0) t0 fr0) := fun o => (Below.heap_alloc w o _ l0).trans hg0
  refine callsIn_of_wp_marks Tryz.func119 rfl trivial ?_ rfl
  simp only [Tryz.ntmps119, List.size_toArray, List.length_cons, List.length_nil, Nat.reduceAdd, Nat.reduceSub, Array.replicate_succ, Array.replicate_zero, List.push_toArray, List.append_toArray, List.nil_append, List.cons_append]
  have n1 : Row ((w.alloc (.cells (arr .u8 (List.replicate 32 0)) 22)).alloc (.cells (arr .u32 (List.replicate 8 0)) 151)) (w.heap.size + 1) 151 .u32 (List.replicate 8 0) := by
    have := Row.new (zs := List.replicate 8 0) (k := .u32) (w.alloc (.cells (arr .u8 (List.replicate 32 0)) 22)) 151 (fun z hz => by rw [List.eq_of_mem_replicate hz]; rfl)
    rwa [World.size_alloc] at this
  have n0 := (Row.new (zs := List.replicate 32 0) (k := .u8) w 22 (fun z hz => by rw [List.eq_of_mem_replicate hz]; rfl)).alloc (.cells (arr .u32 (List.replicate 8 0)) 151)
  gi_wp2_with (first
    | (refine wpListIn_load_arr rfl 151 _ rfl 2 rfl t0 fr0 .u32 Sum.H0 (hg1 _) 8 57 Tryz.underlying151 info_8 rfl ?_)
    | (refine wpListIn_store_Row rfl 151 _ _ rfl (w.heap.size + 1) rfl 151 .u32 _ Sum.H0 rfl n1 8 info_8 rfl rfl ?_))
  have m1 := n1.setRow (eight_wf eight_H0)
  have m0 := n0.setRow_other (g' := w.heap.size + 1) (by omega) (arr .u32 Sum.H0)
  have b2 : Below w.heap.size w (((w.alloc (.cells (arr .u8 (List.replicate 32 0)) 22)).alloc (.cells (arr .u32 (List.replicate 8 0)) 151)).setRow (w.heap.size + 1) (arr .u32 Sum.H0)) :=
    (((Below.refl _ w).alloc (Nat.le_refl _) _).alloc (by simp) _).grown (grown_setRow _ _ _) (by simp; omega) (fun r e => by cases e; omega)
  have z2 : (((w.alloc (.cells (arr .u8 (List.replicate 32 0)) 22)).alloc (.cells (arr .u32 (List.replicate 8 0)) 151)).setRow (w.heap.size + 1) (arr .u32 Sum.H0)).heap.size = w.heap.size + 2 := by simp
  obtain ⟨W2, hW2⟩ : ∃ W2, ((w.alloc (.cells (arr .u8 (List.replicate 32 0)) 22)).alloc (.cells (arr .u32 (List.replicate 8 0)) 151)).setRow (w.heap.size + 1) (arr .u32 Sum.H0) = W2 := ⟨_, rfl⟩
  rw [hW2] at m1 m0 b2 z2
  refine ⟨trivial, ?_⟩
  refine (callsIn_wide.2 (blocks_any A m c _)).mono ?_
  rintro e W3 ⟨rfl, hW3⟩
  have e3 : W3 = W2.alloc (.cells #[.slice A m c] 89) := by rw [hW3, ← hW2]; rfl
  clear hW3 hW2 n1 n0 hg1 hg0
  have hz3 : W3.heap.size = w.heap.size + 2 + 1 := by rw [e3, World.size_alloc, z2]
  have h3 : W3.cell? ⟨w.heap.size + 2, 0, none⟩ = some (.slice A m c) := by
    rw [e3, ← z2, cell_of_row _ _ 0 _ _ (0, 0) (heap_alloc_new W2 _)]; rfl
  have b3 : Below w.heap.size w W3 := by rw [e3]; exact b2.alloc (by omega) _
  have m13 : Row W3 (w.heap.size + 1) 151 .u32 Sum.H0 := by rw [e3]; exact m1.alloc _
  have m03 : Row W3 w.heap.size 22 .u8 (List.replicate 32 0) := by rw [e3]; exact m0.alloc _
  have p3 := (h.below (b3.mono hB))
  have T3 := (ht.below (b3.mono hB))
  have K3 := hT1.below b3 hT1.lt
  have lk := hT1.lt
  clear e3 m1 m0 b2 z2 h ht W2
  have hwf : W3.heap.size = w.heap.size + 3 := hz3
  have hne : ∀ i, w.heap.size + 2 ≤ i → i ≠ w.heap.size + 1 := fun i h e => by omega
  obtain ⟨msg, hmsg⟩ : ∃ msg, xss.flatten ++ padI xss.flatten.length = msg := ⟨_, rfl⟩
  have hit := fun n => iter_far n (w.heap.size + 1) (w.heap.size + 1 + 1) B A m c vs xss W3 h3 p3 T3 (by omega) (by omega) hm hn
  simp only [hmsg] at hit
  have hMB : Bs msg := fun z hz => by
    rw [← hmsg] at hz
    rcases List.mem_append.1 hz with h | h
    · exact hb z h
    · exact pad_bytes _ z h
  have HS := Lib.hid (show Sum.sha xss.flatten = outB (blocksI msg (msg.length / 64)) by
    unfold Sum.sha
    rw [hmsg, ← List.length_append, hmsg])
  clear hmsg hb hn
  gi_wp2_with fail
  refine wpIn_rangeFunc_far rfl (by omega) (gf := 125) (lb := #[.pointer (some ⟨w.heap.size + 1 + 1, 0, none⟩)]) rfl trivial (enters_of Tryz.func125 (by kernel_rfl) rfl)
    (hit _) (fun h k => h.trans k) (fun W l o o' hl ho hc _ => Only.put W l o o' ho hc) (Below.refl _ _) (fun _ => rfl)
    (Inv w msg) (Inv.far w _ (by omega)) ⟨m13, m03, b3⟩
    (fun x a' pre W => Inv w msg pre W ∧ ∃ Bx, w.heap.size + 3 ≤ Bx ∧ Row W Bx 88 .u8 x ∧ a' = { tmps := #[.slice A m c, undef, .pointer (some ⟨w.heap.size, 0, none⟩), .pointer (some ⟨w.heap.size + 1, 0, none⟩), .pointer (some ⟨Bx, 0, none⟩), undef, undef, undef, .agg (arr .u32 Sum.H0), .slice A m c, .func (.func 125) #[] #[.pointer (some ⟨w.heap.size + 1 + 1, 0, none⟩)], .agg (arr .u8 x), undef, undef, undef, undef, undef, undef, undef, undef, undef, undef, undef, undef, undef, undef, undef, undef, undef, undef, undef], defers := [] }) ?ib ?assign ?body ?done
  case ib =>
    rintro x a' pre W W' row ⟨hi, Bx, h1, h2, h3⟩ hg hr
    refine ⟨Inv.far w _ (B := w.heap.size + 2) (Nat.le_refl _) pre W W' row hi hg (fun r e => by have := (hr r e).1; omega), Bx, h1, h2.grown hg (fun e => ?_), h3⟩
    obtain ⟨_, o, ho, hc⟩ := hr Bx e.symm
    rw [h2.2] at ho
    cases ho
    cases hc
  case assign =>
    intro l pre x W K hi hp hsz hK
    have hx := chunks_mem (hp.subset (by simp) : x ∈ chunks msg)
    have hxw : ∀ z ∈ x, (Lit.int .u8 z).wf = true := fun z hz => by
      have hz' := hMB z (hx.2 z hz)
      simp [Lit.wf, IntKind.min, IntKind.max, IntKind.signed, IntKind.bits]; omega
    have HXL := Lib.hid hx.1
    have nw := Row.new (zs := List.replicate 64 0) (k := .u8) W 88 (fun z hz => by rw [List.eq_of_mem_replicate hz]; rfl)
    clear hx
    gi_wp2_with (refine wpListIn_store_Row rfl 88 _ _ rfl W.heap.size rfl 88 .u8 _ x rfl nw 64 info_64 HXL.out rfl ?_)
    have bw : Below W.heap.size W ((W.alloc (.cells (arr .u8 (List.replicate 64 0)) 88)).setRow W.heap.size (arr .u8 x)) := ((Below.refl _ W).alloc (Nat.le_refl _) _).grown (grown_setRow _ _ _) (by simp) (fun r e => by cases e; exact Nat.le_refl _)
    refine hK _ _ ((KeepsOthers.alloc _ _).trans (KeepsOthers.of_grownBy (grown_setRow _ _ _) (fun j o e ho => ?_))) (Only.of_below bw) ⟨Inv.far w _ (B := w.heap.size + 2) (Nat.le_refl _) pre W _ none hi (grown_of_below bw none) (fun r e => by cases e), W.heap.size, by omega, nw.setRow hxw, rfl⟩
    cases e
    obtain rfl := Option.some.inj (nw.2.symm.trans ho)
    rfl
  case body =>
    rintro l pre x a' W ⟨⟨i1, i0, ib⟩, Bx, hBx, hrx, rfl⟩ hp hsz
    have hx := chunks_mem (hp.subset (by simp) : x ∈ chunks msg)
    have hxb : Bs x := fun z hz => hMB z (hx.2 z hz)
    have HXL := Lib.hid hx.1
    have HPN := Lib.hid (prefix_next hp)
    have h8 := eight_blocks msg pre.length
    have H8 := Lib.hid h8.1
    have kT := hT1.below ib lk
    clear hx hp
    gi_wp2_with (first
      | (refine wpListIn_load_Row rfl 151 _ rfl (w.heap.size + 1) rfl 151 .u32 _ i1 8 57 Tryz.underlying151 info_8 H8.out ?_)
      | (refine wpListIn_load_Row rfl 88 _ rfl Bx rfl 88 .u8 _ hrx 64 5 Tryz.underlying88 info_64 HXL.out ?_))
    refine ⟨trivial, ?_⟩
    refine (CallsIn.inRound l (callsIn_wide.2 (fold_any _ x _ h8 hxb HXL.out kT))).mono ?_
    rintro e W4 ⟨rfl, hb4⟩
    have q1 := i1.below hb4 i1.lt
    have q0 := i0.below hb4 i0.lt
    have L8 : (Sum.block (blocksI msg pre.length) x).length = 8 := (Eight.sumUp _ _).1
    have H9 := Lib.hid L8
    clear L8
    gi_wp2_with (refine wpListIn_store_Row rfl 151 _ _ rfl (w.heap.size + 1) rfl 151 .u32 _ _ rfl q1 8 info_8 H9.out H8.out ?_)
    have e9 : blocksI msg (pre ++ [x]).length = Sum.block (blocksI msg pre.length) x := by
      rw [List.length_append, List.length_singleton, blocksI, ← HPN.out.2]
    have r1 := q1.setRow (eight_wf (Eight.sumUp (blocksI msg pre.length) (Sum.rounds (Sum.W x) 64 (blocksI msg pre.length))))
    refine ⟨(KeepsOthers.of_grownBy (grown_of_below hb4 none) (fun j o e => by cases e)).trans (KeepsOthers.of_grownBy (grown_setRow _ _ _) (fun j o e ho => ?_)),
      (Only.of_below hb4).trans (Only.of_grown (grown_setRow _ _ _) (fun r e => by cases e; rfl)), ?_, q0.setRow_other (by omega) _, (ib.trans (hb4.mono (by omega))).grown (grown_setRow _ _ _) (by have := hb4.size; omega) (fun r e => by cases e; omega)⟩
    · cases e
      obtain rfl := Option.some.inj (q1.2.symm.trans ho)
      rfl
    · rw [e9]; exact r1
  case done =>
    intro D W hD ⟨i1, i0, ib⟩ hDl
    rw [chunks_length] at i1
    have h8 := eight_blocks msg (msg.length / 64)
    generalize blocksI msg (msg.length / 64) = hh at i1 HS h8
    have H8 := Lib.hid h8.1
    have ls := i1.lt
    have b1 := i1.alloc (.cells (arr .u8 (List.replicate 32 0)) 22)
    have b0 := i0.alloc (.cells (arr .u8 (List.replicate 32 0)) 22)
    have bb := ib.alloc (by omega) (.cells (arr .u8 (List.replicate 32 0)) 22)
    have bn := Row.new (zs := List.replicate 32 0) (k := .u8) W 22 (fun z hz => by rw [List.eq_of_mem_replicate hz]; rfl)
    have bD := (Below.heap_alloc W (.cells (arr .u8 (List.replicate 32 0)) 22) D (Array.getElem?_eq_some_iff.1 hDl).1).trans hDl
    gi_wp2_with (refine wpListIn_load_Row rfl 151 _ rfl (w.heap.size + 1) rfl 151 .u32 _ b1 8 57 Tryz.underlying151 info_8 H8.out ?_)
    have gS := W.heap.size
    rw [← outPart_start hh] at bn
    gi_loopw [16] (fun i wr => ∃ k : Nat, k ≤ 8 ∧ i = .int .i64 k ∧ wr.heap[D]? = some (.deferred (some [])) ∧ Row wr W.heap.size 22 .u8 (outPart hh k) ∧ Row wr w.heap.size 22 .u8 (List.replicate 32 0) ∧ Below w.heap.size w wr) (fun i _ => 8 - (intOf i).toNat)
    case atStart => exact ⟨0, by omega, rfl, bD, bn, b0, bb⟩
    case round =>
      clear bD bn b0 bb b1 i1 i0 ib hDl
      obtain ⟨k, hk, rfl, dD, rn, r0, rb⟩ := hrel
      have hDW : D ≠ W.heap.size := fun e => by
        have := rn.2
        rw [← e, dD] at this
        cases this
      by_cases hlt : k < 8
      · have hidx := fun W' => run_index_arr (P := Tryz.prog) 151 57 8 .u32 hh k W' Tryz.underlying151 (by kernel_rfl) (by kernel_rfl) H8.out hlt
        have hsl : ∀ W', (Instr.sliceAt 22 (.pointer (some ⟨W.heap.size, 0, none⟩)) (some (.int .i64 (4 * (k : Int)))) (some (.int .i64 (4 * (k : Int) + 4))) none).run Tryz.prog W' = .ok (.slice (some ⟨W.heap.size, 4 * k, none⟩) 4 (32 - 4 * k)) W' := fun W' => by
          have := run_slice_arr_lh (P := Tryz.prog) 22 5 32 W.heap.size (4 * k) (4 * k + 4) W' Tryz.underlying22 (by kernel_rfl) (by omega) (by omega) (by omega)
          rw [show 4 * k + 4 - 4 * k = 4 by omega] at this
          exact_mod_cast this
        have hx : R32 (hh.getD k 0) := by
          rw [List.getD_eq_getElem?_getD, List.getElem?_eq_getElem (by rw [H8.out]; exact hlt)]
          exact h8.2 _ (List.getElem_mem _)
        have HST := Lib.hid (outPart_step hh hlt)
        have hlt' : (k : Int) < 8 := by omega
        have hk0 : (0 : Int) ≤ (k : Int) := by omega
        have hx1 := hx.1
        have hx2 := hx.2
        generalize hh.getD k 0 = x at hidx hx1 hx2 hx HST
        gi_wp2_with fail
        refine ⟨trivial, ?_⟩
        refine (callsIn_wide.2 (put_any W.heap.size (4 * k) 4 _ _ _ x _ (by omega) (by omega) rn (by rw [outPart_length]; omega) (by omega))).mono ?_
        rintro e W5 ⟨rfl, r5, g5⟩
        rw [HST.out] at r5
        have dD5 := (g5.block D (Array.getElem?_eq_some_iff.1 dD).1 (fun e => hDW (Option.some.inj e))).trans dD
        have r05 := r0.grown g5 (fun e => by have := Option.some.inj e; omega)
        have rb5 := rb.grown g5 rb.size (fun r e => by cases e; omega)
        gi_wp2_with fail
        go_roundw
        case rel => exact ⟨k + 1, by omega, by go_num, dD5, r5, r05, rb5⟩
        case measure => simp [intOf]; omega
      · have hk8 : k = 8 := by omega
        subst hk8
        rw [outPart_end] at rn
        have HO := Lib.hid (out_length hh)
        gi_wp2_with (first
          | (refine wpListIn_load_Row rfl 22 _ rfl W.heap.size rfl 22 .u8 _ rn 32 5 Tryz.underlying22 info_32 HO.out ?_)
          | (refine wpListIn_store_Row rfl 22 _ _ rfl w.heap.size rfl 22 .u8 _ _ rfl r0 32 info_32 HO.out rfl ?_))
        have r9 := r0.setRow rn.1
        have hD0 : D ≠ w.heap.size := by omega
        have dD9 := (setRow_other wr w.heap.size D (arr .u8 (outB hh)) hD0).trans dD
        refine ⟨by simp, .inl ⟨_, _, rfl, run_takeDeferred dD9, ?_⟩⟩
        have r10 : Row ((wr.setRow w.heap.size (arr .u8 (outB hh))).putObj D (.deferred none)) w.heap.size 22 .u8 (outB hh) := ⟨r9.1, (World.putObj_heap_other (fun e => hD0 e.symm)).trans r9.2⟩
        refine ⟨.agg (arr .u8 (outB hh)), results_Row rfl _ _ w.heap.size _ _ _ rfl r10 32 5 Tryz.underlying22 info_32 HO.out, by rw [HS.out], ?_⟩
        exact (rb.grown (grown_setRow _ _ _) rb.size (fun r e => by cases e; exact Nat.le_refl _)).grown (grownBy_putObj' _ D _) (by have := rb.size; simp; omega) (fun r e => by cases e; omega)
end Go.Proofs.YtjelacblnjbfgaaGreatDoor.Sha
namespace Go.Proofs.YtjelacblnjbfgaaGreatDoor.Sha
open Go.RowKit Go.ChangeShapes Go.WideShapes Mem Go.Proofs.YtjelacblnjbfgaaGreatDoor.Sum
theorem Texts.bs {w : World} {B : Nat} {vs : List Value} {xss : List (List Int)} (h : Texts w B vs xss) : Bs xss.flatten := fun z hz => by
  obtain ⟨xs, hxs, hz⟩ := List.mem_flatten.1 hz
  obtain ⟨i, hi, rfl⟩ := List.mem_iff_getElem.1 hxs
  obtain ⟨A, n, c, _, _, _, hh⟩ := h.2 i (by rw [h.1]; exact hi)
  have e : xss.getD i [] = xss[i] := by simp [List.getD_eq_getElem?_getD, hi]
  rw [e] at hh
  exact wf_u8 (hh.2.1 z hz)
end Go.Proofs.YtjelacblnjbfgaaGreatDoor.Sha
