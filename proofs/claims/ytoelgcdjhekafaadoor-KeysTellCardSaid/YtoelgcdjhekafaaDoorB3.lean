/-
  The functions put, Pad and Words of package sha, each by its contract. Conditions: a message of at most 2^44 bytes; the table of constants lies where the program's text lays it.
  What package sha lays behind its parts: slices.Grow and slices.Concat at lists of texts, and padded, each by its contract. Conditions: at most 2^36 parts, of at most 2^40 bytes together.
  The function padded of package sha by its contract. Conditions: at most 2^30 parts, of at most 2^40 bytes together.
  The iterator over a message's blocks of package sha, by its contract: it hands out just the blocks, one by one. Conditions: at most 2^30 parts, of at most 2^40 bytes together.
  The function Sum of package sha by its contract: SHA-256 of all parts, one behind the other. Conditions: at most 2^30 parts, of at most 2^40 bytes together; the two tables lie where the program's text lays them.
  What the frame of a proof says of a list of texts that came in: a slice of slices that read as lists of bytes. No conditions beyond those stated.
  sha.Sum of parts that the caller has just laid into a list, by its contract. Conditions: the parts read as lists of bytes, of at most 2^40 bytes in all; the two tables lie where the program's text lays them.
  HMAC as a plain function; the functions fitted and keyed of package mac's beginnings. Conditions: keys of at most 2^40 bytes; the two tables of package sha lie where the program's text lays them.
  The iterator over a first part and all parts behind it, of package mac, by its contract. Conditions beyond those stated: none.
  The function keyed of package mac by its contract: the sum of the key's block, each byte of it turned, and of all parts behind it. Conditions: at most 2^20 parts, of at most 2^39 bytes together; the two tables of package sha lie where the program's text lays them.
  The function Tag of package mac by its contract: HMAC of all parts, one behind the other. Conditions: at most 2^20 parts, of at most 2^39 bytes together; the two tables of package sha lie where the program's text lays them.
  mac.Tag of parts that the caller has just laid into a list, by its contract. Conditions: the key and the parts read as lists of bytes, of at most 2^39 bytes in all; the two tables of package sha lie where the program's text lays them.
  The pieces of package hkdf as plain functions, and the iterator over them by its contract. Conditions: what is said is at most 2^38 bytes; the two tables of package sha lie where the program's text lays them.
  The function Expand of package hkdf by its contract. Conditions: what is said is at most 2^38 bytes; the two tables of package sha lie where the program's text lays them.
  The functions Extract and Key of package hkdf by their contracts. Conditions: salts, keys and what is said are at most 2^38 bytes; the two tables of package sha lie where the program's text lays them.
-/
import Derived.Test.YtoelgcdjhekafaaDoorB2
import Derived.Test.YtoelgcdjhekafaaDoorB1
import Derived.Deep.Matrix
import Derived.OneCell
namespace Go.Proofs.YtoelgcdjhekafaaDoor.Sha
open Go.RowKit Go.Proofs.YtoelgcdjhekafaaDoor.Mem Go.Proofs.YtoelgcdjhekafaaDoor.Help Go.Proofs.YtoelgcdjhekafaaDoor.Sum
set_option linter.unusedVariables false

/-- the last k of the len places from off on are written, the lowest byte last -/
def putL (zs : List Int) (off len : Nat) (x : Int) (k : Nat) : List Int :=
  (List.range zs.length).map fun j => if off + len - k ≤ j ∧ j < off + len then x / 2 ^ (8 * (off + len - 1 - j)) % 256 else zs.getD j 0
theorem putL_length (zs : List Int) (off len : Nat) (x : Int) (k : Nat) : (putL zs off len x k).length = zs.length := by simp [putL]
theorem putL_start (zs : List Int) (off len : Nat) (x : Int) : putL zs off len x 0 = zs := by
  apply List.ext_getElem (by rw [putL_length])
  intro i h1 h2
  simp only [putL, List.getElem_map, List.getElem_range]
  rw [if_neg (by omega)]
  simp [List.getD_eq_getElem?_getD, h2]
theorem putL_step (zs : List Int) (off len : Nat) (x : Int) {k : Nat} (hk : k < len) : putL zs off len x (k + 1) = (putL zs off len x k).set (off + (len - 1 - k)) (x / 2 ^ (8 * k) % 256) := by
  apply List.ext_getElem (by rw [List.length_set, putL_length, putL_length])
  intro i h1 h2
  rw [List.getElem_set]
  by_cases e : off + (len - 1 - k) = i
  · subst e
    rw [if_pos rfl]
    simp only [putL, List.getElem_map, List.getElem_range]
    rw [if_pos (by omega)]
    congr 3
    omega
  · rw [if_neg e]
    simp only [putL, List.getElem_map, List.getElem_range]
    by_cases q : off + len - k ≤ i ∧ i < off + len
    · rw [if_pos (by omega), if_pos q]
    · rw [if_neg (by omega), if_neg q]

theorem put_any (g off len cap : Nat) (t : TypeId) (zs : List Int) (x : Int) (w : World) (hx : 0 ≤ x) (hx' : x < 18446744073709551616) (hr : Row w g t .u8 zs) (hl : off + len ≤ zs.length) (hn : len ≤ 8) :
    Calls Tryd.prog 68 #[.slice (some ⟨g, off, none⟩) len cap, .int .u64 x] w fun e w' => e = .returned (.tuple #[]) ∧ Row w' g t .u8 (putL zs off len x len) ∧ w.grownBy w' (some g) := by
  go_enter Tryd.func68, Tryd.ntmps68
  go_wp2_with fail
  go_loopw [7] (fun i wr => ∃ k : Nat, k ≤ len ∧ i = .int .i64 k ∧ w.grownBy wr (some g) ∧ Row wr g t .u8 (putL zs off len x k)) (fun i _ => len - (intOf i).toNat)
  case atStart => exact ⟨0, by omega, rfl, World.grownBy.refl _ _, by rw [putL_start]; exact hr⟩
  case round =>
    obtain ⟨k, hk, rfl, hg, hq⟩ := hrel
    by_cases hlt : k < len
    · have HS := Lib.hid (show Row (wr.setCell ⟨g, off + (len - 1 - k), none⟩ (.int .u8 (x / 2 ^ (8 * k) % 256))) g t .u8 (putL zs off len x (k + 1)) by
        rw [putL_step _ _ _ _ hlt]
        exact hq.set _ (by simp [Lit.wf, IntKind.min, IntKind.max, IntKind.signed, IntKind.bits]; omega))
      obtain ⟨old, hc⟩ : ∃ old, wr.cell? ⟨g, off + (len - 1 - k), none⟩ = some old := ⟨_, hq.cell (by rw [putL_length]; omega)⟩
      have hf := hq.frozen (off + (len - 1 - k))
      have hlt' : (k : Int) < (len : Int) := by omega
      have hk0 : (0 : Int) ≤ (k : Int) := by omega
      have hk7 : (k : Int) ≤ 7 := by omega
      have hn8 : (len : Int) ≤ 8 := by omega
      have e1 := Lib.hid (show (len : Int) - 1 - (k : Int) = ((len - 1 - k : Nat) : Int) by omega)
      go_wp2_with fail
      go_roundw
      case rel => exact ⟨k + 1, by omega, by go_num, hg.trans (grown_setCell _ _ _ _), HS.out⟩
      case measure => simp [intOf]; omega
    · have hkl : k = len := by omega
      subst hkl
      go_wp2_with fail
      go_end0
      exact ⟨rfl, hq, hg⟩
theorem pad_eq (n : Nat) (hn : n ≤ 17592186044416) :
    putL ((List.replicate (9 + (119 - n % 64) % 64) (0 : Int)).set 0 128) (1 + (119 - n % 64) % 64) 8 ((n : Int) * 8) 8 = padI n := by
  apply List.ext_getElem (by rw [putL_length, pad_length]; simp)
  intro i h1 h2
  rw [putL_length] at h1
  simp only [putL, List.getElem_map, List.getElem_range, padI]
  by_cases q : 1 + (119 - n % 64) % 64 ≤ i ∧ i < 1 + (119 - n % 64) % 64 + 8
  · rw [if_pos (by omega), List.getElem_cons, dif_neg (by omega), List.getElem_append_right (by simp; omega)]
    simp only [List.length_replicate, List.getElem_map, List.getElem_range]
    have e : 8 * (1 + (119 - n % 64) % 64 + 8 - 1 - i) = 56 - 8 * (i - 1 - (119 - n % 64) % 64) := by omega
    rw [e]
    congr 2
    omega
  · simp only [List.length_set, List.length_replicate] at h1
    rw [if_neg (by omega)]
    by_cases z : i = 0
    · subst z
      simp [List.getD_eq_getElem?_getD, show 0 < 9 + (119 - n % 64) % 64 by omega]
    · rw [List.getElem_cons, dif_neg z, List.getElem_append_left (by simp; omega)]
      simp only [List.getElem_replicate, List.getD_eq_getElem?_getD]
      rw [List.getElem?_set_ne (by omega)]
      simp [h1]

theorem pad_any (N : Int) (n : Nat) (w : World) (hN : (n : Int) = max N 0) (hn : n ≤ 17592186044416) :
    Calls Tryd.prog 78 #[.int .i64 N] w fun e w' => e = .returned (.slice (some ⟨w.heap.size, 0, none⟩) (padI n).length (padI n).length) ∧ Row w' w.heap.size 5 .u8 (padI n) ∧ Below w.heap.size w w' := by
  have E := Lib.hid (pad_eq n hn)
  have L := Lib.hid (pad_length n)
  have HB := Lib.hid (pad_bytes n)
  obtain ⟨z, hz⟩ : ∃ z, (119 - n % 64) % 64 = z := ⟨_, rfl⟩
  have hz64 : z < 64 := by omega
  have HZ := Lib.hid (show (119 - (n : Int) % 64) % 64 = (z : Int) by omega)
  rw [hz] at E L
  by_cases hneg : N < 0
  · have e : n = 0 := by omega
    subst e
    have hz55 : z = 55 := by omega
    subst hz55
    have hmx : ¬ (0 : Int) ≤ N := by omega
    clear hN hz HZ
    go_enter Tryd.func78, Tryd.ntmps78
    go_wp2_with (refine wpList_make_Row _ rfl _ _ 34 rfl 5 .u8 1 Tryd.underlying34 info_u8 .i64 .i64 _ _ 64 rfl rfl (by omega) (by omega) (by omega) (by omega) ?_; intro w1 hr1 hg1 hs1; obtain ⟨old, hc0⟩ : ∃ old, w1.cell? ⟨w.heap.size, 0, none⟩ = some old := ⟨_, hr1.cell (by simp)⟩; have hf0 := hr1.frozen 0)
    have hr2 := hr1.set 0 (z := 128) (by decide)
    have hb2 : Below w.heap.size w (w1.setCell ⟨w.heap.size, 0, none⟩ (.int .u8 128)) := ((Below.refl _ w).grown hg1 (Nat.le_refl _) (by simp)).setCell (Nat.le_refl _) _
    refine (put_any _ _ 8 8 _ _ _ _ (by omega) (by omega) hr2 (by simp) (by omega)).mono ?_
    rintro e w2 ⟨rfl, hr3, hg3⟩
    have E' := E.out
    simp only [Int.natCast_zero, Int.zero_mul] at E'
    rw [show (64 : Nat) = 9 + 55 from rfl, show (56 : Nat) = 1 + 55 from rfl, E'] at hr3
    have hb3 := hb2.grown hg3 (by simp [World.setCell]; omega) (fun r e => by cases e; exact Nat.le_refl _)
    clear hr2 hb2 hg3 E'
    go_wp2_with fail
    go_ret
    have e9 : 64 = (padI 0).length := L.out.symm
    refine ⟨?_, hr3, hb3⟩
    rw [← e9]
    rfl
  · have e : N = (n : Int) := by omega
    subst e
    have hnn : (n : Int) ≤ 17592186044416 := by omega
    have hn0 : (0 : Int) ≤ (n : Int) := by omega
    have hz1 : (119 - (n : Int)) % 64 = (z : Int) := by omega
    have hz2 : (119 - (n : Int) % 64) % 64 = (z : Int) := by omega
    have hzi : (z : Int) < 64 := by omega
    clear hN hz hneg HZ
    have u8w : ∀ y ∈ (List.replicate (9 + z) (0 : Int)), (Lit.int .u8 y).wf = true := fun y hy => by rw [List.eq_of_mem_replicate hy]; rfl
    go_enter Tryd.func78, Tryd.ntmps78
    go_wp2_with (refine wpList_make_Row _ rfl _ _ 34 rfl 5 .u8 1 Tryd.underlying34 info_u8 .i64 .i64 _ _ (9 + z) rfl rfl (by omega) (by omega) (by omega) (by omega) ?_; intro w1 hr1 hg1 hs1; obtain ⟨old, hc0⟩ : ∃ old, w1.cell? ⟨w.heap.size, 0, none⟩ = some old := ⟨_, hr1.cell (by simp; omega)⟩; have hf0 := hr1.frozen 0)
    have hr2 := hr1.set 0 (z := 128) (by decide)
    have hb2 : Below w.heap.size w (w1.setCell ⟨w.heap.size, 0, none⟩ (.int .u8 128)) := ((Below.refl _ w).grown hg1 (Nat.le_refl _) (by simp)).setCell (Nat.le_refl _) _
    have e8 : 9 + z - (1 + z) = 8 := by omega
    rw [e8]
    refine (put_any _ _ 8 8 _ _ _ _ (by omega) (by omega) hr2 (by simp; omega) (by omega)).mono ?_
    rintro e w2 ⟨rfl, hr3, hg3⟩
    rw [E.out] at hr3
    have hb3 := hb2.grown hg3 (by simp [World.setCell]; omega) (fun r e => by cases e; exact Nat.le_refl _)
    clear hr2 hb2 hg3 e8
    go_wp2_with fail
    go_ret
    have e9 : 9 + z = (padI n).length := L.out.symm
    refine ⟨?_, hr3, hb3⟩
    rw [← e9]
    rfl

theorem info_k : (Tryd.prog.info? 79).map (·.size) = some 64 := by kernel_rfl
theorem wf_K : ∀ z ∈ Sum.K, (Lit.int .u32 z).wf = true := by decide +kernel

set_option maxRecDepth 100000 in
theorem rwords_any (w : World) :
    Calls Tryd.prog 56 #[] w fun e w' => e = .returned (.agg (arr .u32 Sum.K)) ∧ Below w.heap.size w w' := by
  have r0 := Row.new (zs := List.replicate 64 0) (k := .u32) w 79 (fun z hz => by rw [List.eq_of_mem_replicate hz]; rfl)
  go_enter Tryd.func56, Tryd.ntmps56
  go_wp2_with (first
    | (refine wpList_build_Row rfl 79 _ rfl .u32 Sum.K (by kernel_rfl) ?_)
    | (refine wpList_store_Row rfl 79 _ _ rfl w.heap.size rfl 79 .u32 _ Sum.K rfl r0 64 info_k rfl rfl ?_))
  have r1 := r0.setRow wf_K
  refine bodyPost_ret (v := .agg (arr .u32 Sum.K)) (results_Row rfl _ _ w.heap.size _ _ _ rfl r1 64 38 Tryd.underlying79 info_k rfl) rfl ?_
  exact ⟨rfl, ((Below.refl _ w).alloc (Nat.le_refl _) _).grown (grown_setRow _ _ _) (by simp) (fun r e => by cases e; exact Nat.le_refl _)⟩
end Go.Proofs.YtoelgcdjhekafaaDoor.Sha
namespace Go.Proofs.YtoelgcdjhekafaaDoor.Sha
open Go.RowKit Go.Proofs.YtoelgcdjhekafaaDoor.Mem Go.Proofs.YtoelgcdjhekafaaDoor.Help Go.Proofs.YtoelgcdjhekafaaDoor.Sum
set_option linter.unusedVariables false

theorem info_bytes : (Tryd.prog.info? 34).map (fun i => (i.zero, i.size, i.bytes)) = some (some (.slice none 0 0), 1, 24) := by kernel_rfl

theorem ownBlock_ge {base n size : Nat} {v : Value} {w : World} {e : TypeId} {xs : List Value}
    (h : (v = .slice none 0 0 ∧ n = 0) ∨ ∃ g cap cur, v = .slice (some ⟨g, 0, none⟩) n cap ∧ base ≤ g ∧ w.heap[g]? = some (.cells cur e (0, 0)) ∧ n ≤ cap ∧ cap ≤ maxLen ∧ cur.size = cap * size ∧ cur.toList.take (n * size) = xs) {r : Nat}
    (hr : v.ownBlock = some r) : base ≤ r := by
  rcases h with ⟨rfl, _⟩ | ⟨g, cap, cur, rfl, hb, _⟩
  · simp [Value.ownBlock] at hr
  · simp only [Value.ownBlock, Option.some.injEq] at hr
    omega

set_option maxRecDepth 100000 in
theorem grow_any (n : Nat) (w : World) (h0 : 0 < n) (hn : n ≤ 1099511627776) :
    Calls Tryd.prog 80 #[.slice none 0 0, .int .i64 (n : Int)] w fun e w' => ∃ cap, e = .returned (.slice (some ⟨w.heap.size, 0, none⟩) 0 cap) ∧ n ≤ cap ∧
      w'.ownsRow w.heap.size 34 1 (.slice (some ⟨w.heap.size, 0, none⟩) 0 cap) 0 [] ∧ w.grownBy w' none := by
  obtain ⟨cap, w1, hrun, hc, hown, hg, hm⟩ := run_grow_nil (P := Tryd.prog) w 85 3 85 34 (.slice none 0 0) 24 .i64 Tryd.underlying85 Tryd.underlying3 info_bytes rfl n h0 hn (by omega)
  have hn' : (n : Int) ≤ 1099511627776 := by omega
  have h0' : (0 : Int) < (n : Int) := by omega
  go_enter Tryd.func80, Tryd.ntmps80
  go_wp2_with (at_builtin; refine Lib.wpList_append_run _ rfl _ _ 85 3 rfl _ _ rfl rfl _ _ hrun ?_)
  go_ret
  exact ⟨cap, rfl, hc, hown, hg⟩

theorem concat_any (B : Nat) (A A0 A1 : Option Addr) (c n0 n1 c0 c1 : Nat) (vs0 vs1 : List Value) (w : World) (h : Vals w B A 2 [.slice A0 n0 c0, .slice A1 n1 c1]) (h0 : Vals w B A0 n0 vs0) (h1 : Vals w B A1 n1 vs1) (hB : B ≤ w.heap.size)
    (hn0 : n0 ≤ 68719476736) (hn1 : n1 ≤ 68719476736) (hp : 0 < n0 + n1) :
    Calls Tryd.prog 77 #[.slice A 2 c] w fun e w' => ∃ v, e = .returned v ∧ w'.ownsRow w.heap.size 34 1 v (n0 + n1) (vs0 ++ vs1) ∧ Below w.heap.size w w' := by
  obtain ⟨b, off, rfl, hb, ca⟩ := h.at_ (i := 0) (by omega)
  obtain ⟨b', off', e', hb', cb⟩ := h.at_ (i := 1) (by omega)
  injection e' with e'
  injection e' with e1 e2
  subst e1
  subst e2
  clear h
  simp only [List.getD_eq_getElem?_getD, List.getElem?_cons_zero, List.getElem?_cons_succ, Option.getD_some, Nat.add_zero] at ca cb
  have hn0' : (n0 : Int) ≤ 68719476736 := by omega
  have hn1' : (n1 : Int) ≤ 68719476736 := by omega
  go_enter Tryd.func77, Tryd.ntmps77
  go_wp2_with fail
  go_loop [3, 11] (fun s i => (i = .int .i64 0 ∧ s = .int .i64 0) ∨ (i = .int .i64 1 ∧ s = .int .i64 (n0 : Int)) ∨ (i = .int .i64 2 ∧ s = .int .i64 ((n0 : Int) + n1))) (fun _ i => 2 - (intOf i).toNat)
  case atStart => exact .inl ⟨rfl, rfl⟩
  case round =>
    rcases hrel with ⟨rfl, rfl⟩ | ⟨rfl, rfl⟩ | ⟨rfl, rfl⟩
    · go_wp2_with fail
      go_round
      case rel => exact .inr (.inl ⟨rfl, rfl⟩)
      case measure => simp [intOf]
    · go_wp2_with fail
      go_round
      case rel => exact .inr (.inr ⟨rfl, rfl⟩)
      case measure => simp [intOf]
    · go_wp2_with fail
      have en : (n0 : Int) + (n1 : Int) = ((n0 + n1 : Nat) : Int) := by omega
      rw [en]
      refine (grow_any (n0 + n1) _ hp (by omega)).mono ?_
      rintro e w1 ⟨cap, rfl, hcap, hown, hg⟩
      have s1 := hg.size
      have hb1 : Below w.heap.size w w1 := (Below.refl _ w).grown hg (Nat.le_refl _) (by simp)
      clear en hg
      go_wp2_with fail
      go_loopw [6, 27] (fun v i wr => Below w.heap.size w wr ∧ w1.heap.size ≤ wr.heap.size ∧ ((i = .int .i64 0 ∧ wr.ownsRow w.heap.size 34 1 v 0 []) ∨ (i = .int .i64 1 ∧ wr.ownsRow w.heap.size 34 1 v n0 vs0) ∨ (i = .int .i64 2 ∧ wr.ownsRow w.heap.size 34 1 v (n0 + n1) (vs0 ++ vs1)))) (fun _ i _ => 2 - (intOf i).toNat)
      case atStart => exact ⟨hb1, Nat.le_refl _, .inl ⟨rfl, hown⟩⟩
      case round =>
        obtain ⟨hbl, hs, hrel⟩ := hrel
        have ca1 := (hbl.cell (p := ⟨b, off, none⟩) (by show b < _; omega)).trans ca
        have cb1 := (hbl.cell (p := ⟨b, off + 1, none⟩) (by show b < _; omega)).trans cb
        have v0 := (h0.more hB).below hbl
        have v1 := (h1.more hB).below hbl
        have hz := hbl.size
        clear ca cb h0 h1 hb1 hown
        rcases hrel with ⟨rfl, hown⟩ | ⟨rfl, hown⟩ | ⟨rfl, hown⟩
        · go_wp2_with (at_builtin; refine wpList_append_vals _ rfl _ _ 85 rfl w.heap.size 34 (.slice none 0 0) 24 Tryd.underlying85 info_bytes rfl _ 0 [] rfl hown w.heap.size A0 n0 c0 vs0 rfl v0 (by omega) (by omega) hz ?_; intro v' w' hown' hg' hat')
          go_roundw
          case rel => exact ⟨hbl.grown hg' hz (fun r e => ownBlock_ge hown.2 e), by have := hg'.size; omega, .inr (.inl ⟨rfl, by simpa using hown'⟩)⟩
          case measure => simp [intOf]
        · go_wp2_with (at_builtin; refine wpList_append_vals _ rfl _ _ 85 rfl w.heap.size 34 (.slice none 0 0) 24 Tryd.underlying85 info_bytes rfl _ n0 vs0 rfl hown w.heap.size A1 n1 c1 vs1 rfl v1 (by omega) (by omega) hz ?_; intro v' w' hown' hg' hat')
          go_roundw
          case rel => exact ⟨hbl.grown hg' hz (fun r e => ownBlock_ge hown.2 e), by have := hg'.size; omega, .inr (.inr ⟨rfl, hown'⟩)⟩
          case measure => simp [intOf]
        · go_wp2_with fail
          go_ret
          exact ⟨_, rfl, hown, hbl⟩
end Go.Proofs.YtoelgcdjhekafaaDoor.Sha
namespace Go.Proofs.YtoelgcdjhekafaaDoor.Sha
open Go.RowKit Go.Proofs.YtoelgcdjhekafaaDoor.Mem Go.Proofs.YtoelgcdjhekafaaDoor.Help Go.Proofs.YtoelgcdjhekafaaDoor.Sum
set_option linter.unusedVariables false

/-- the values vs are slices that read as the texts xss -/
def Texts (w : World) (B : Nat) (vs : List Value) (xss : List (List Int)) : Prop :=
  vs.length = xss.length ∧ ∀ i, i < vs.length → ∃ A n c, vs.getD i undef = .slice A n c ∧ n ≤ c ∧ c ≤ maxLen ∧ Ints w .u8 B A n (xss.getD i [])
section
variable {w w' : World} {B B' : Nat} {vs us : List Value} {xss yss : List (List Int)}
theorem Texts.below (h : Texts w B vs xss) (hb : Below B w w') : Texts w' B vs xss := ⟨h.1, fun i hi => by obtain ⟨A, n, c, e, h1, h2, hh⟩ := h.2 i hi; exact ⟨A, n, c, e, h1, h2, hh.below hb⟩⟩
theorem Texts.more (h : Texts w B vs xss) (hB : B ≤ B') : Texts w B' vs xss := ⟨h.1, fun i hi => by obtain ⟨A, n, c, e, h1, h2, hh⟩ := h.2 i hi; exact ⟨A, n, c, e, h1, h2, hh.more hB⟩⟩
theorem Texts.keep (h : Texts w B vs xss) (hk : ∀ p : Addr, p.block < B → w'.cell? p = w.cell? p) : Texts w' B vs xss := ⟨h.1, fun i hi => by obtain ⟨A, n, c, e, h1, h2, hh⟩ := h.2 i hi; exact ⟨A, n, c, e, h1, h2, hh.keep hk⟩⟩
theorem Texts.nil (w : World) (B : Nat) : Texts w B [] [] := ⟨rfl, fun i hi => by simp at hi⟩
theorem Texts.append (h : Texts w B vs xss) (k : Texts w B us yss) : Texts w B (vs ++ us) (xss ++ yss) := by
  refine ⟨by simp [h.1, k.1], fun i hi => ?_⟩
  by_cases q : i < vs.length
  · have := h.2 i q
    simp only [List.getD_eq_getElem?_getD] at this ⊢
    rw [List.getElem?_append_left q, List.getElem?_append_left (by rw [← h.1]; exact q)]
    exact this
  · rw [List.length_append] at hi
    have := k.2 (i - vs.length) (by omega)
    simp only [List.getD_eq_getElem?_getD] at this ⊢
    rw [List.getElem?_append_right (by omega), List.getElem?_append_right (by rw [← h.1]; omega), ← h.1]
    exact this
theorem Texts.one {A : Option Addr} {n c : Nat} {xs : List Int} (h : Ints w .u8 B A n xs) (h1 : n ≤ c) (h2 : c ≤ maxLen) : Texts w B [.slice A n c] [xs] :=
  ⟨rfl, fun i hi => by
    have : i = 0 := by simpa using hi
    subst this
    exact ⟨A, n, c, rfl, h1, h2, h⟩⟩
theorem Texts.one_cell (h : Texts w B vs xss) : ∀ v ∈ vs, v.oneCell' = true := fun v hv => by
  obtain ⟨i, hi, rfl⟩ := List.mem_iff_getElem.1 hv
  obtain ⟨A, n, c, e, _⟩ := h.2 i hi
  rw [List.getD_eq_getElem?_getD, List.getElem?_eq_getElem hi] at e
  simp only [Option.getD_some] at e
  rw [e]; rfl
end

theorem flat_take (xss : List (List Int)) {k : Nat} (h : k < xss.length) : (xss.take (k + 1)).flatten.length = (xss.take k).flatten.length + (xss.getD k []).length := by
  rw [List.take_add_one, List.getElem?_eq_getElem h, List.flatten_append, List.length_append]
  simp [List.getD_eq_getElem?_getD, h]
theorem flat_le (xss : List (List Int)) (k : Nat) : (xss.take k).flatten.length ≤ xss.flatten.length := by
  have := congrArg List.length (congrArg List.flatten (List.take_append_drop k xss))
  rw [List.flatten_append, List.length_append] at this
  omega

theorem padded_any (B : Nat) (A : Option Addr) (m c : Nat) (vs : List Value) (xss : List (List Int)) (w : World) (h : Vals w B A m vs) (ht : Texts w B vs xss) (hB : B ≤ w.heap.size) (hm : m ≤ 1073741824) (hn : xss.flatten.length ≤ 1099511627776) :
    Calls Tryd.prog 71 #[.slice A m c] w fun e w' => ∃ v, e = .returned v ∧ w'.ownsRow w.heap.size 34 1 v (m + 1) (vs ++ [.slice (some ⟨w.heap.size, 0, none⟩) (padI xss.flatten.length).length (padI xss.flatten.length).length]) ∧
      Row w' w.heap.size 5 .u8 (padI xss.flatten.length) ∧ Below w.heap.size w w' := by
  have hm' : (m : Int) ≤ 1073741824 := by omega
  have HV := Lib.hid h.1
  have HX := Lib.hid ht.1
  have HN := Lib.hid hn
  go_enter Tryd.func71, Tryd.ntmps71
  go_wp2_with fail
  go_loop [3, 8] (fun s i => ∃ k : Nat, k ≤ m ∧ i = .int .i64 k ∧ ∃ q : Nat, s = .int .i64 q ∧ Hid (q = (xss.take k).flatten.length)) (fun _ i => m - (intOf i).toNat)
  case atStart => exact ⟨0, by omega, rfl, 0, rfl, Lib.hid (by simp)⟩
  case round =>
    obtain ⟨k, hk, rfl, q, rfl, hq⟩ := hrel
    have hq0 : q ≤ 1099511627776 := by have := hq.out; have := flat_le xss k; omega
    by_cases hlt : k < m
    · obtain ⟨b, off, rfl, hb, hc⟩ := h.at_ hlt
      obtain ⟨A1, n1, c1, e1, hc1, hm1, hi1⟩ := ht.2 k (by rw [HV.out]; exact hlt)
      rw [e1] at hc
      have HQ := Lib.hid (show q + n1 = (xss.take (k + 1)).flatten.length by rw [flat_take xss (by have := HV.out; have := HX.out; omega), hi1.1, ← hq.out])
      have hq1 : q + n1 ≤ 1099511627776 := by have := HQ.out; have := flat_le xss (k + 1); omega
      have hlt' : (k : Int) < (m : Int) := by omega
      have hk0 : (0 : Int) ≤ (k : Int) := by omega
      have hq1' : (q : Int) + (n1 : Int) ≤ 1099511627776 := by omega
      clear e1 hi1
      go_wp2_with fail
      go_round
      case rel => exact ⟨k + 1, by omega, by go_num, q + n1, by go_num, HQ⟩
      case measure => simp [intOf]; omega
    · have hkm : k = m := by omega
      subst hkm
      have hqn : Hid (q = xss.flatten.length) := by
        have := hq.out
        rw [List.take_of_length_le (by have := HV.out; have := HX.out; omega)] at this
        exact Lib.hid this
      clear hq
      go_wp2_with fail
      refine (pad_any (q : Int) q _ (by omega) (by omega)).mono ?_
      rintro e w1 ⟨rfl, hr1, hb1⟩
      go_wp2_with fail
      have s1 := hb1.size
      have hw : w.heap.size < w1.heap.size := hr1.lt
      have p1 := (Vals.new w1 34 [.slice (some ⟨w.heap.size, 0, none⟩) (padI q).length (padI q).length] (by simp [Value.oneCell'])).alloc (by simp) (.cells #[.slice A k c, .slice (some ⟨w1.heap.size, 0, none⟩) 1 1] 85)
      have p2 := Vals.new (w1.alloc (.cells [.slice (some ⟨w.heap.size, 0, none⟩) (padI q).length (padI q).length].toArray 34)) 85 [.slice A k c, .slice (some ⟨w1.heap.size, 0, none⟩) 1 1] (by simp [Value.oneCell'])
      have b3 : Below w.heap.size w ((w1.alloc (.cells #[.slice (some ⟨w.heap.size, 0, none⟩) (padI q).length (padI q).length] 34)).alloc (.cells #[.slice A k c, .slice (some ⟨w1.heap.size, 0, none⟩) 1 1] 85)) := (hb1.alloc s1 _).alloc (by simp; omega) _
      have p0 := (h.below (b3.mono hB)).more (B' := w1.heap.size + 1 + 1) (by omega)
      have r3 := (hr1.alloc (.cells #[.slice (some ⟨w.heap.size, 0, none⟩) (padI q).length (padI q).length] 34)).alloc (.cells #[.slice A k c, .slice (some ⟨w1.heap.size, 0, none⟩) 1 1] 85)
      rw [World.size_alloc] at p2
      refine (concat_any (w1.heap.size + 1 + 1) _ A _ 2 k 1 c 1 vs _ _ p2 p0 (p1.more (by omega)) (by simp) (by omega) (by omega) (by omega)).mono ?_
      rintro e w4 ⟨v, rfl, hown, hb4⟩
      have hz4 := hb4.size
      rw [World.size_alloc, World.size_alloc] at hz4
      have hown' : w4.ownsRow w.heap.size 34 1 v (k + 1) (vs ++ [.slice (some ⟨w.heap.size, 0, none⟩) (padI q).length (padI q).length]) := by
        refine ⟨hown.1, ?_⟩
        rcases hown.2 with hh | ⟨g, cap, cur, e, hge, rest⟩
        · exact .inl hh
        · rw [World.size_alloc, World.size_alloc] at hge
          exact .inr ⟨g, cap, cur, e, by omega, rest⟩
      have T4 := r3.below hb4 (by simp; omega)
      rw [hqn.out] at T4 hown'
      have b4 := b3.trans (hb4.mono (by simp; omega))
      clear p0 p1 p2 r3 b3 hown hb4 hr1 hb1 h ht
      go_wp2_with fail
      go_ret
      exact ⟨v, rfl, hown', T4, b4⟩
end Go.Proofs.YtoelgcdjhekafaaDoor.Sha
namespace Go.Proofs.YtoelgcdjhekafaaDoor.Sha
open Go.RowKit Go.Shelf Go.Proofs.YtoelgcdjhekafaaDoor.Mem Go.Proofs.YtoelgcdjhekafaaDoor.Help Go.Proofs.YtoelgcdjhekafaaDoor.Sum Go.Proofs.YtoelgcdjhekafaaDoor.Range
set_option linter.unusedVariables false
attribute [local go_sem] Oper.semAt_some

/-- the whole blocks of a message -/
def chunks (m : List Int) : List (List Int) := (List.range (m.length / 64)).map fun i => (m.drop (64 * i)).take 64
theorem chunks_length (m : List Int) : (chunks m).length = m.length / 64 := by simp [chunks]
theorem chunks_take (m : List Int) {j : Nat} (h : 64 * (j + 1) ≤ m.length) : (chunks m).take j ++ [(m.drop (64 * j)).take 64] = (chunks m).take (j + 1) := by
  have hj : j < (chunks m).length := by rw [chunks_length]; omega
  rw [List.take_succ_eq_append_getElem hj]
  simp [chunks]
theorem chunks_mem {m x : List Int} (h : x ∈ chunks m) : x.length = 64 ∧ ∀ z ∈ x, z ∈ m := by
  simp only [chunks, List.mem_map, List.mem_range] at h
  obtain ⟨i, hi, rfl⟩ := h
  exact ⟨by rw [List.length_take, List.length_drop]; omega, fun z hz => List.mem_of_mem_drop (List.mem_of_mem_take hz)⟩

/-- the block as it is when p bytes have come -/
def Blk (m : List Int) (p : Nat) (cur : List Int) : Prop := cur.length = 64 ∧ cur.take (p % 64) = (m.drop (64 * (p / 64))).take (p % 64)
theorem Blk.step {m cur : List Int} {p n k : Nat} (h : Blk m p cur) (hk : k = min n (64 - p % 64)) (hn : p + n ≤ m.length) (h0 : 0 < n) :
    (cur.take (p % 64) ++ (((m.drop p).take n).take k ++ cur.drop (p % 64 + k))).length = 64 ∧ ((p + k) % 64 ≠ 0 → Blk m (p + k) (cur.take (p % 64) ++ (((m.drop p).take n).take k ++ cur.drop (p % 64 + k)))) ∧
      ((p + k) % 64 = 0 → cur.take (p % 64) ++ (((m.drop p).take n).take k ++ cur.drop (p % 64 + k)) = (m.drop (64 * (p / 64))).take 64) := by
  obtain ⟨hl, ht⟩ := h
  have hp : p % 64 < 64 := Nat.mod_lt _ (by omega)
  have hc : (cur.take (p % 64)).length = p % 64 := by simp; omega
  have hd : (((m.drop p).take n).take k).length = k := by simp; omega
  have e1 : cur.take (p % 64) ++ ((m.drop p).take n).take k = (m.drop (64 * (p / 64))).take (p % 64 + k) := by
    rw [ht, List.take_take, Nat.min_eq_left (by omega), List.take_add, List.drop_drop]
    congr 3
    omega
  have hlen : (cur.take (p % 64) ++ (((m.drop p).take n).take k ++ cur.drop (p % 64 + k))).length = 64 := by
    rw [List.length_append, List.length_append, hc, hd, List.length_drop]; omega
  refine ⟨hlen, fun hne => ⟨hlen, ?_⟩, fun he => ?_⟩
  · have hlt : p % 64 + k < 64 := by omega
    have e2 : (p + k) % 64 = p % 64 + k := by omega
    have e3 : (p + k) / 64 = p / 64 := by omega
    rw [e2, e3, ← e1, ← List.append_assoc, List.take_left' (by rw [List.length_append, hc, hd])]
  · have hk64 : p % 64 + k = 64 := by omega
    have ed : cur.drop 64 = [] := List.drop_of_length_le (by omega)
    rw [hk64, ed, List.append_nil, e1, hk64]
theorem Blk.next {m cur : List Int} {p : Nat} (hl : cur.length = 64) (h : p % 64 = 0) : Blk m p cur := ⟨hl, by rw [h]; simp⟩

theorem flat_get : ∀ (yss : List (List Int)) (k : Nat), k < yss.length → yss.getD k [] = (yss.flatten.drop (yss.take k).flatten.length).take (yss.getD k []).length
  | [], k, h => by simp at h
  | ys :: yss, 0, _ => by simp
  | ys :: yss, k + 1, h => by
    have := flat_get yss k (by simpa using h)
    simp only [List.getD_cons_succ, List.take_succ_cons, List.flatten_cons, List.length_append] at this ⊢
    rw [List.drop_append, List.drop_of_length_le (by omega), List.nil_append]
    have e : ys.length + (yss.take k).flatten.length - ys.length = (yss.take k).flatten.length := by omega
    rw [e]
    exact this
def lenV : Value → Nat
  | .slice _ n _ => n
  | _ => 0

theorem blocks_any (A : Option Addr) (m c : Nat) (w : World) :
    Calls Tryd.prog 66 #[.slice A m c] w fun e w' => e = .returned (.func (.func 70) #[] #[.pointer (some ⟨w.heap.size, 0, none⟩)]) ∧ w' = w.alloc (.cells #[.slice A m c] 85) := by
  go_enter Tryd.func66, Tryd.ntmps66
  go_wp2
  go_ret
  exact ⟨rfl, rfl⟩

set_option maxRecDepth 100000 in
set_option maxHeartbeats 2000000 in
theorem iter_far (n st bx B : Nat) (A : Option Addr) (m c : Nat) (vs : List Value) (xss : List (List Int)) (w : World) (hbx : w.cell? ⟨bx, 0, none⟩ = some (.slice A m c)) (h : Vals w B A m vs) (ht : Texts w B vs xss)
    (hB : B ≤ st) (hst : st < w.heap.size) (hm : m ≤ 1073741824) (hn : xss.flatten.length ≤ 1099511627776) :
    SeqFar Fence.wide n Tryd.prog 70 #[.pointer (some ⟨bx, 0, none⟩)] (fun bs => #[.agg (arr .u8 bs)]) (Only (· = st)) (chunks (xss.flatten ++ padI xss.flatten.length)) w := by
  intro l J W hW hJ hY h0
  have hbx' := (hW.cell (p := ⟨bx, 0, none⟩) (World.block_lt_of_cell? w _ hbx)).trans hbx
  have hs := hW.size
  have h1 := (h.below (hW.mono (by omega))).alloc (by omega) (.cells (arr .u8 (List.replicate 64 0)) 86)
  have ht1 := (ht.below (hW.mono (by omega)) : Texts W B vs xss).keep (w' := W.alloc (.cells (arr .u8 (List.replicate 64 0)) 86)) (fun p hp => World.cell?_alloc_lt W _ p (by omega))
  have hbx1 : ∀ o, (W.alloc o).cell? ⟨bx, 0, none⟩ = some (.slice A m c) := fun o => (World.cell?_alloc_lt W o _ (World.block_lt_of_cell? W _ hbx')).trans hbx'
  refine callsIn_of_wp Tryd.func70 rfl trivial ?_ rfl
  simp only [Tryd.ntmps70, List.size_toArray, List.length_cons, List.length_nil, Nat.reduceAdd, Nat.reduceSub, Array.replicate_succ, Array.replicate_zero, List.push_toArray, List.append_toArray, List.nil_append, List.cons_append]
  gi_wp2_with fail
  refine ⟨trivial, fun h => (by cases h), ?_⟩
  refine (callsIn_wide.2 (padded_any B A m c vs xss _ h1 ht1 (by simp; omega) hm hn)).mono ?_
  rintro e w2 ⟨v2, rfl, hown, hpad, hb2⟩
  have nb : Row (W.alloc (.cells (arr .u8 (List.replicate 64 0)) 86)) W.heap.size 86 .u8 (List.replicate 64 0) := Row.new W _ (fun z hz => by rw [List.eq_of_mem_replicate hz]; rfl)
  have rb := nb.below hb2 (by simp)
  have hs2 := hb2.size
  have hw2 : Below W.heap.size W w2 := ((Below.refl _ W).alloc (Nat.le_refl _) _).trans (hb2.mono (by simp))
  have hJ2 := hJ [] W w2 none h0 (grown_of_below hw2 none) (fun r e => by cases e)
  rw [World.size_alloc] at hown hpad hs2
  have htn : Texts w2 B vs xss := (ht.below (hW.mono (by omega)) : Texts W B vs xss).below (hw2.mono (by omega))
  obtain ⟨g, cap, rfl, hg1, hg2, hvals⟩ : ∃ g cap, v2 = .slice (some ⟨g, 0, none⟩) (m + 1) cap ∧ W.heap.size + 1 ≤ g ∧ g < w2.heap.size ∧ Vals w2 w2.heap.size (some ⟨g, 0, none⟩) (m + 1) (vs ++ [.slice (some ⟨W.heap.size + 1, 0, none⟩) (padI xss.flatten.length).length (padI xss.flatten.length).length]) := by
    rcases hown.2 with ⟨_, h0⟩ | ⟨g, cap, cur, e, hge, hgg, hnc, hcm, hcs, htk⟩
    · omega
    · subst e
      refine ⟨g, cap, rfl, hge, (Array.getElem?_eq_some_iff.1 hgg).1, ownsRow_vals hown (fun v hv => ?_)⟩
      rcases List.mem_append.1 hv with hv | hv
      · exact htn.one_cell v hv
      · have : v = _ := List.mem_singleton.1 hv
        rw [this]; rfl
  -- every text, of the parts and of the pad, lies apart from the caller's cell and from the block
  have hS : ∀ b, b < B → ¬ (b = st ∨ b = W.heap.size) := fun b hb e => by omega
  have hall : ∀ k, k ≤ m → ∃ A' n' c', w2.cell? ⟨g, k, none⟩ = some (.slice A' n' c') ∧ n' ≤ c' ∧ c' ≤ maxLen ∧ IntsN w2 .u8 (fun b => b = st ∨ b = W.heap.size) A' n' ((xss ++ [padI xss.flatten.length]).getD k []) := by
    intro k hk
    obtain ⟨b, off, e, _, hc⟩ := hvals.at_ (i := k) (by omega)
    injection e with e
    injection e with e1 e2
    subst e1
    subst e2
    rw [Nat.zero_add] at hc
    by_cases hkm : k < m
    · obtain ⟨A', n', c', e3, h3, h4, h5⟩ := htn.2 k (by rw [h.1]; exact hkm)
      have hkv : k < vs.length := by rw [h.1]; exact hkm
      have hkx : k < xss.length := by rw [← ht.1]; exact hkv
      refine ⟨A', n', c', ?_, h3, h4, ?_⟩
      · rw [hc, ← e3]
        simp [List.getD_eq_getElem?_getD, List.getElem?_append_left hkv]
      · have e4 : (xss ++ [padI xss.flatten.length]).getD k [] = xss.getD k [] := by simp [List.getD_eq_getElem?_getD, List.getElem?_append_left hkx]
        rw [e4]
        exact IntsN.of h5 hS
    · have : k = m := by omega
      subst this
      have hkv : vs.length = k := h.1
      have hkx : xss.length = k := by rw [← ht.1]; exact hkv
      refine ⟨some ⟨W.heap.size + 1, 0, none⟩, (padI xss.flatten.length).length, (padI xss.flatten.length).length, ?_, Nat.le_refl _, ?_, ?_⟩
      · rw [hc]; simp [List.getD_eq_getElem?_getD, hkv]
      · rw [pad_length]; unfold maxLen; omega
      · have e4 : (xss ++ [padI xss.flatten.length]).getD k [] = padI xss.flatten.length := by simp [List.getD_eq_getElem?_getD, hkx]
        rw [e4]
        exact IntsN.row hpad (by omega)
  have hgS : ¬ (g = st ∨ g = W.heap.size) := by omega
  have hbS : ¬ W.heap.size = st := by omega
  clear hvals hown hpad htn nb hb2 h1 ht1 hbx1 hbx' hbx
  -- the whole message, and how far the parts reach
  obtain ⟨yss, hyss⟩ : ∃ yss, xss ++ [padI xss.flatten.length] = yss := ⟨_, rfl⟩
  have hyl : yss.length = m + 1 := by rw [← hyss, List.length_append, ← ht.1, h.1]; rfl
  have hmsg : xss.flatten ++ padI xss.flatten.length = yss.flatten := by rw [← hyss, List.flatten_append]; simp
  have hwhole : yss.flatten.length % 64 = 0 := by rw [← hmsg, List.length_append]; exact pad_whole _
  have hbig : yss.flatten.length ≤ 1099511627776 + 128 := by rw [← hmsg, List.length_append, pad_length]; omega
  rw [hyss] at hall
  rw [hmsg] at hY
  have HM := Lib.hid hmsg
  clear hyss hmsg h ht hn
  have HW := Lib.hid hwhole
  have HY := Lib.hid hyl
  clear hwhole hyl
  have hm' : (m : Int) ≤ 1073741824 := by omega
  gi_wp2_with fail
  gi_loopw [4, 11] (fun f i wr => ∃ k p : Nat, k ≤ m + 1 ∧ i = .int .i64 k ∧ Hid (p = (yss.take k).flatten.length) ∧ f = .int .i64 ((p % 64 : Nat) : Int) ∧ J ((chunks yss.flatten).take (p / 64)) wr ∧ Only (fun b => b = st ∨ b = W.heap.size) w2 wr ∧
    ∃ cur, Row wr W.heap.size 86 .u8 cur ∧ Hid (Blk yss.flatten p cur)) (fun _ i _ => m + 1 - (intOf i).toNat)
  case atStart => exact ⟨0, 0, by omega, rfl, Lib.hid (by simp), rfl, by simpa using hJ2, Only.refl _ _, _, rb, Lib.hid ⟨by simp, by simp⟩⟩
  case round =>
    obtain ⟨k, p, hk, rfl, hp, rfl, hJp, hon, cur, hcur, hblk⟩ := hrel
    by_cases hlt : k < m + 1
    · obtain ⟨A1, n1, c1, hc1, hn1, hm1, hi1⟩ := hall k (by omega)
      have hc1' := hon.cell (p := ⟨g, k, none⟩) hgS hc1
      have hlt' : (k : Int) < (m : Int) + 1 := by omega
      have hk0 : (0 : Int) ≤ (k : Int) := by omega
      have hkl : k < yss.length := by rw [HY.out]; exact hlt
      have hq : p + n1 = (yss.take (k + 1)).flatten.length := by rw [flat_take yss hkl, hi1.1, ← hp.out]
      have hqm := flat_le yss (k + 1)
      have htx := flat_get yss k hkl
      rw [hi1.1, ← hp.out] at htx
      rw [htx] at hi1
      obtain ⟨q, hq2⟩ : ∃ q, (yss.take (k + 1)).flatten.length = q := ⟨_, rfl⟩
      have HQ2 := Lib.hid hq2.symm
      rw [hq2] at hq hqm
      clear hq2
      have HQ := Lib.hid hq
      clear hq htx hp hc1 hall
      gi_wp2_with fail
      gi_loopw [4, 6] (fun f a wr => ∃ p n' : Nat, ∃ A' c', f = .int .i64 ((p % 64 : Nat) : Int) ∧ a = .slice A' n' c' ∧ n' ≤ c' ∧ c' ≤ maxLen ∧ Hid (p + n' = q) ∧ IntsN w2 .u8 (fun b => b = st ∨ b = W.heap.size) A' n' ((yss.flatten.drop p).take n') ∧
        J ((chunks yss.flatten).take (p / 64)) wr ∧ Only (fun b => b = st ∨ b = W.heap.size) w2 wr ∧ ∃ cur, Row wr W.heap.size 86 .u8 cur ∧ Hid (Blk yss.flatten p cur)) (fun _ a _ => lenV a)
      case atStart => exact ⟨p, n1, A1, c1, rfl, rfl, hn1, hm1, HQ, hi1, hJp, hon, cur, hcur, hblk⟩
      case round =>
        clear hi1 hJp hon hcur hblk hn1 hm1 HQ
        obtain ⟨p, n', A', c', rfl, rfl, hn1, hm1, hq, hi1, hJp, hon, cur, hcur, hblk⟩ := hrel
        by_cases hpos : 0 < n'
        · obtain ⟨b, off, rfl, hbN, hcc⟩ := hi1.2.2 hpos
          have hcw : ∀ i, i < n' → wr.cell? ⟨b, off + i, none⟩ = some (.int .u8 (((yss.flatten.drop p).take n').getD i 0)) := fun i hi => hon.cell (p := ⟨b, off + i, none⟩) hbN (hcc i hi)
          obtain ⟨mm, hmm⟩ : ∃ mm, min n' (64 - p % 64) = mm := ⟨_, rfl⟩
          have hstep := hblk.out.step (n := n') hmm.symm (by have := hq.out; omega) hpos
          have HST := Lib.hid hstep
          have hcl := hblk.out.1
          have hxl := hi1.1
          have HCL := Lib.hid hcl
          have HXL := Lib.hid hxl
          have hf64 : p % 64 < 64 := Nat.mod_lt _ (by omega)
          have hmm1 : 0 < mm := by omega
          have hmm2 : mm ≤ n' := by omega
          have hmm3 : mm ≤ 64 - p % 64 := by omega
          have HMM := Lib.hid hmm
          clear hstep hcl hxl hmm hcc
          obtain ⟨f, hf⟩ : ∃ f, p % 64 = f := ⟨_, rfl⟩
          have hcur' := hcur
          obtain ⟨new, hnew⟩ : ∃ new, cur.take f ++ (((yss.flatten.drop p).take n').take mm ++ cur.drop (f + mm)) = new := ⟨_, rfl⟩
          have r3 : Row (wr.setRow W.heap.size (arr .u8 new)) W.heap.size 86 .u8 new := hcur.setRow (fun z hz => by
            rw [← hnew] at hz
            rcases List.mem_append.1 hz with hz | hz
            · exact hcur.1 z (List.mem_of_mem_take hz)
            · rcases List.mem_append.1 hz with hz | hz
              · exact hi1.2.1 z (List.mem_of_mem_take hz)
              · exact hcur.1 z (List.mem_of_mem_drop hz))
          have o3 : Only (fun b => b = st ∨ b = W.heap.size) w2 (wr.setRow W.heap.size (arr .u8 new)) := hon.trans (Only.of_grown (grown_setRow _ _ _) (fun r e => by cases e; exact .inr rfl))
          have J3 := hJ _ _ _ _ hJp (grown_setRow wr W.heap.size (arr .u8 new)) (fun r e => by cases e; exact Nat.le_refl _)
          rw [hf, hnew] at HST
          rw [hf] at HMM hf64 hmm3 ⊢
          have hfi : (f : Int) < 64 := by omega
          have hmi : (mm : Int) ≤ 64 - (f : Int) := by omega
          have hmi0 : (0 : Int) < (mm : Int) := by omega
          have hfi0 : (0 : Int) ≤ (f : Int) := by omega
          have hmi2 : (mm : Int) ≤ (n' : Int) := by omega
          have hsl := fun W' => run_slice_arr_l (P := Tryd.prog) 86 5 64 W.heap.size f W' Tryd.underlying86 (by kernel_rfl) hf64
          have hcutN := hi1.cut hmm2 hn1
          rw [List.drop_take, List.drop_drop] at hcutN
          have HQ' := Lib.hid (show p + mm + (n' - mm) = q by have := hq.out; omega)
          by_cases hz : (p + mm) % 64 = 0
          · have hx := HST.out.2.2 hz
            have e64 : p + mm = 64 * (p / 64 + 1) := by omega
            have htk := chunks_take yss.flatten (j := p / 64) (by have := hq.out; omega)
            obtain ⟨fn, tmps, assign, body, hy, hR⟩ := hY _ new _ J3 (by rw [hx, htk]; exact List.take_prefix _ _)
            have HTK := Lib.hid htk
            have HXX := Lib.hid hx
            have HZ := Lib.hid hz
            have HE := Lib.hid e64
            have hzi : ((f : Int) + (mm : Int)) % 64 = 0 := by omega
            have hz2 := Lib.hid hzi
            clear hx htk e64 hz hzi
            have hL : new.length = 64 := HST.out.1
            have HLn := Lib.hid hL
            clear hL
            have hzb : ((((f : Int) + (mm : Int)) % 64 == 0)) = true := by rw [hz2.out]; rfl
            by_cases hcm : c' = mm
            · rw [if_pos hcm] at hcutN
              subst hcm
              have HQ0 := Lib.hid (show p + c' + 0 = q by have := hq.out; omega)
              have hz0 : IntsN w2 .u8 (fun b => b = st ∨ b = W.heap.size) (some ⟨b, off, none⟩) 0 ((yss.flatten.drop (p + c')).take 0) := ⟨by simp, by simp, fun h => absurd h (by omega)⟩
              gi_wp2_with (first
                | (refine wpListIn_copy_Row rfl _ _ 34 34 rfl 5 Tryd.underlying34 (by kernel_rfl) W.heap.size f (64 - f) (64 - f) (some ⟨b, off, none⟩) n' c' rfl rfl 86 .u8 cur _ hcur (fun _ => ⟨b, off, rfl, hcw⟩) HXL.out c' HMM.out.symm hmm1 (by rw [HCL.out]; omega) ?_; rw [hnew])
                | (refine wpListIn_load_Row rfl 86 _ rfl W.heap.size rfl 86 .u8 new r3 64 5 Tryd.underlying86 info_64 HLn.out ?_))
              all_goals
                refine ⟨fun h => (by cases h), ?_⟩
                refine hR.mono ?_
                rintro e W4 ⟨rfl, J4, k4⟩
                have o4 := o3.trans (k4.mono (fun i e => .inl e))
                have r4 := k4.row hbS r3
                rw [HXX.out, HTK.out] at J4
                gi_wp2_with fail
                go_roundw
                case rel => exact ⟨p + c', 0, _, _, by rw [HZ.out, hz2.out]; rfl, rfl, by omega, by omega, HQ0, hz0, by rw [show (p + c') / 64 = p / 64 + 1 by have := HE.out; omega]; exact J4, o4, new, r4, Lib.hid (Blk.next HLn.out HZ.out)⟩
                case measure => simp [lenV]; omega
            · rw [if_neg hcm] at hcutN
              gi_wp2_with (first
                | (refine wpListIn_copy_Row rfl _ _ 34 34 rfl 5 Tryd.underlying34 (by kernel_rfl) W.heap.size f (64 - f) (64 - f) (some ⟨b, off, none⟩) n' c' rfl rfl 86 .u8 cur _ hcur (fun _ => ⟨b, off, rfl, hcw⟩) HXL.out mm HMM.out.symm hmm1 (by rw [HCL.out]; omega) ?_; rw [hnew])
                | (refine wpListIn_load_Row rfl 86 _ rfl W.heap.size rfl 86 .u8 new r3 64 5 Tryd.underlying86 info_64 HLn.out ?_))
              all_goals
                refine ⟨fun h => (by cases h), ?_⟩
                refine hR.mono ?_
                rintro e W4 ⟨rfl, J4, k4⟩
                have o4 := o3.trans (k4.mono (fun i e => .inl e))
                have r4 := k4.row hbS r3
                rw [HXX.out, HTK.out] at J4
                gi_wp2_with fail
                go_roundw
                case rel => exact ⟨p + mm, n' - mm, _, _, by rw [HZ.out, hz2.out]; rfl, rfl, by omega, by omega, HQ', hcutN, by rw [show (p + mm) / 64 = p / 64 + 1 by have := HE.out; omega]; exact J4, o4, new, r4, Lib.hid (Blk.next HLn.out HZ.out)⟩
                case measure => simp [lenV]; omega
          · have HB := Lib.hid (HST.out.2.1 hz)
            have hzi : ¬ ((f : Int) + (mm : Int)) % 64 = 0 := by omega
            have hzb : (((f : Int) + (mm : Int)) % 64 == 0) = false := by simpa using hzi
            have HD := Lib.hid (show (p + mm) / 64 = p / 64 by omega)
            have HE := Lib.hid (show ((f : Int) + (mm : Int)) % 64 = (((p + mm) % 64 : Nat) : Int) by omega)
            by_cases hcm : c' = mm
            · rw [if_pos hcm] at hcutN
              subst hcm
              have HQ0 := Lib.hid (show p + c' + 0 = q by have := hq.out; omega)
              have hz0 : IntsN w2 .u8 (fun b => b = st ∨ b = W.heap.size) (some ⟨b, off, none⟩) 0 ((yss.flatten.drop (p + c')).take 0) := ⟨by simp, by simp, fun h => absurd h (by omega)⟩
              gi_wp2_with (refine wpListIn_copy_Row rfl _ _ 34 34 rfl 5 Tryd.underlying34 (by kernel_rfl) W.heap.size f (64 - f) (64 - f) (some ⟨b, off, none⟩) n' c' rfl rfl 86 .u8 cur _ hcur (fun _ => ⟨b, off, rfl, hcw⟩) HXL.out c' HMM.out.symm hmm1 (by rw [HCL.out]; omega) ?_; rw [hnew])
              all_goals
                refine ⟨fun _ h => (by cases h), ?_⟩
                gi_wp2_with fail
                go_roundw
                case rel => exact ⟨p + c', 0, _, _, by rw [HE.out], rfl, by omega, by omega, HQ0, hz0, by rw [HD.out]; exact J3, o3, new, r3, HB⟩
                case measure => simp [lenV]; omega
            · rw [if_neg hcm] at hcutN
              gi_wp2_with (refine wpListIn_copy_Row rfl _ _ 34 34 rfl 5 Tryd.underlying34 (by kernel_rfl) W.heap.size f (64 - f) (64 - f) (some ⟨b, off, none⟩) n' c' rfl rfl 86 .u8 cur _ hcur (fun _ => ⟨b, off, rfl, hcw⟩) HXL.out mm HMM.out.symm hmm1 (by rw [HCL.out]; omega) ?_; rw [hnew])
              all_goals
                refine ⟨fun _ h => (by cases h), ?_⟩
                gi_wp2_with fail
                go_roundw
                case rel => exact ⟨p + mm, n' - mm, _, _, by rw [HE.out], rfl, by omega, by omega, HQ', hcutN, by rw [HD.out]; exact J3, o3, new, r3, HB⟩
                case measure => simp [lenV]; omega
        · have hn0 : n' = 0 := by omega
          subst hn0
          have hpq : Hid (p = q) := Lib.hid (by have := hq.out; omega)
          gi_wp2_with fail
          go_roundw
          case rel => exact ⟨k + 1, q, by omega, by go_num, HQ2, by rw [← hpq.out], by rw [← hpq.out]; exact hJp, hon, cur, hcur, by rw [← hpq.out]; exact hblk⟩
          case measure => simp [intOf]; omega
    · have hkm : k = m + 1 := by omega
      subst hkm
      have hpe : p = yss.flatten.length := by
        have := hp.out
        rw [List.take_of_length_le (by rw [HY.out]; omega)] at this
        exact this
      have hall2 : (chunks yss.flatten).take (p / 64) = chunks (xss.flatten ++ padI xss.flatten.length) := by
        rw [HM.out, List.take_of_length_le (by rw [chunks_length, hpe]; omega)]
      have HA := Lib.hid hall2
      clear hall2 hpe
      gi_wp2_with fail
      go_end0
      exact ⟨⟨_, rfl⟩, by rw [← HA.out]; exact hJp⟩
end Go.Proofs.YtoelgcdjhekafaaDoor.Sha
namespace Go.Proofs.YtoelgcdjhekafaaDoor.Sha
open Go.RowKit Go.Shelf Go.Proofs.YtoelgcdjhekafaaDoor.Mem Go.Proofs.YtoelgcdjhekafaaDoor.Help Go.Proofs.YtoelgcdjhekafaaDoor.Sum Go.Proofs.YtoelgcdjhekafaaDoor.Range
set_option linter.unusedVariables false
attribute [local go_sem] Oper.semAt_some

theorem prefix_next {m : List Int} {pre : List (List Int)} {x : List Int} (h : (pre ++ [x]) <+: chunks m) : pre.length < m.length / 64 ∧ x = (m.drop (64 * pre.length)).take 64 := by
  obtain ⟨r, hr⟩ := h
  have hl := congrArg List.length hr
  rw [chunks_length] at hl
  simp at hl
  have hlt : pre.length < m.length / 64 := by omega
  refine ⟨hlt, ?_⟩
  have := congrArg (fun l => l[pre.length]?) hr
  simp [chunks, hlt] at this
  exact this

/-- the first 4 * i bytes of a sum -/
def outPart (h : List Int) (i : Nat) : List Int := (List.range 32).map fun j => if j < 4 * i then (outB h).getD j 0 else 0
theorem outPart_length (h : List Int) (i : Nat) : (outPart h i).length = 32 := by simp [outPart]
theorem outPart_start (h : List Int) : outPart h 0 = List.replicate 32 0 := by
  unfold outPart
  rw [List.map_congr_left (g := fun _ => (0 : Int)) (fun j _ => by rw [if_neg (by omega)])]
  rfl
theorem outPart_end (h : List Int) : outPart h 8 = outB h := by
  apply List.ext_getElem (by simp [outPart, outB])
  intro i h1 h2
  simp only [outPart_length] at h1
  simp [outPart, List.getD_eq_getElem?_getD, h2, show i < 4 * 8 by omega]
theorem outPart_step (h : List Int) {i : Nat} (hi : i < 8) : putL (outPart h i) (4 * i) 4 (h.getD i 0) 4 = outPart h (i + 1) := by
  apply List.ext_getElem (by rw [putL_length, outPart_length, outPart_length])
  intro j h1 h2
  rw [putL_length, outPart_length] at h1
  have hg : ∀ q, (outPart h q)[j]? = some (if j < 4 * q then (outB h).getD j 0 else 0) := fun q => by simp [outPart, h1]
  simp only [putL, List.getElem_map, List.getElem_range]
  have e2 : (outPart h (i + 1))[j] = if j < 4 * (i + 1) then (outB h).getD j 0 else 0 := by
    have := hg (i + 1)
    rw [List.getElem?_eq_getElem (by rw [outPart_length]; exact h1)] at this
    exact Option.some.inj this
  have e3 : (outPart h i).getD j 0 = if j < 4 * i then (outB h).getD j 0 else 0 := by rw [List.getD_eq_getElem?_getD, hg i, Option.getD_some]
  rw [e2, e3]
  by_cases q : 4 * i + 4 - 4 ≤ j ∧ j < 4 * i + 4
  · rw [if_pos q, if_pos (by omega)]
    have ej : j / 4 = i := by omega
    simp [outB, List.getD_eq_getElem?_getD, h1, ej]
    congr 3
    omega
  · rw [if_neg q]
    by_cases z : j < 4 * i
    · rw [if_pos z, if_pos (by omega)]
    · rw [if_neg z, if_neg (by omega)]

theorem info_32 : (Tryd.prog.info? 22).map (·.size) = some 32 := by kernel_rfl
theorem eight_wf {v : List Int} (h : Eight v) : ∀ z ∈ v, (Lit.int .u32 z).wf = true := fun z hz => wf_u32 (h.2 z hz)

/-- what stands between two rounds -/
def Inv (w : World) (msg : List Int) (pre : List (List Int)) (W : World) : Prop :=
  Row W (w.heap.size + 1) 81 .u32 (blocksI msg pre.length) ∧ Row W w.heap.size 22 .u8 (List.replicate 32 0) ∧ Below w.heap.size w W
theorem Inv.far (w : World) (msg : List Int) {B : Nat} (hB : w.heap.size + 2 ≤ B) : Far B (Inv w msg) := by
  intro pre W W' row h hg hr
  have hne : ∀ i, i < B → some i ≠ row := fun i hi e => by have := hr i e.symm; omega
  refine ⟨h.1.grown hg (hne _ (by omega)), h.2.1.grown hg (hne _ (by omega)), h.2.2.grown hg (by have := h.1.lt; omega) (fun r e => by have := hr r e; omega)⟩

set_option maxRecDepth 100000 in
set_option maxHeartbeats 2000000 in
theorem sum_any (B : Nat) (A : Option Addr) (m c : Nat) (vs : List Value) (xss : List (List Int)) (w : World) (h : Vals w B A m vs) (ht : Texts w B vs xss) (hB : B ≤ w.heap.size) (hm : m ≤ 1073741824) (hn : xss.flatten.length ≤ 1099511627776)
    (hb : Bs xss.flatten) (hT0 : Tab w 3 Sum.H0) (hT1 : Tab w 4 Sum.K) :
    Calls Tryd.prog 64 #[.slice A m c] w fun e w' => e = .returned (.agg (arr .u8 (Sum.sha xss.flatten))) ∧ Below w.heap.size w w' := by
  refine (callsIn_wide (n := 3)).1 ?_
  obtain ⟨t0, fr0, hg0⟩ := hT0
  have l0 := (Array.getElem?_eq_some_iff.1 hg0).1
  have hg1 : ∀ o, (w.alloc o).heap[(3 : Nat)]? = some (.cells (arr .u32 Sum.H0) t0 fr0) := fun o => (Below.heap_alloc w o _ l0).trans hg0
  refine callsIn_of_wp_marks Tryd.func64 rfl trivial ?_ rfl
  simp only [Tryd.ntmps64, List.size_toArray, List.length_cons, List.length_nil, Nat.reduceAdd, Nat.reduceSub, Array.replicate_succ, Array.replicate_zero, List.push_toArray, List.append_toArray, List.nil_append, List.cons_append]
  have n1 : Row ((w.alloc (.cells (arr .u8 (List.replicate 32 0)) 22)).alloc (.cells (arr .u32 (List.replicate 8 0)) 81)) (w.heap.size + 1) 81 .u32 (List.replicate 8 0) := by
    have := Row.new (zs := List.replicate 8 0) (k := .u32) (w.alloc (.cells (arr .u8 (List.replicate 32 0)) 22)) 81 (fun z hz => by rw [List.eq_of_mem_replicate hz]; rfl)
    rwa [World.size_alloc] at this
  have n0 := (Row.new (zs := List.replicate 32 0) (k := .u8) w 22 (fun z hz => by rw [List.eq_of_mem_replicate hz]; rfl)).alloc (.cells (arr .u32 (List.replicate 8 0)) 81)
  gi_wp2_with (first
    | (refine wpListIn_load_arr rfl 81 _ rfl 3 rfl t0 fr0 .u32 Sum.H0 (hg1 _) 8 38 Tryd.underlying81 info_8 rfl ?_)
    | (refine wpListIn_store_Row rfl 81 _ _ rfl (w.heap.size + 1) rfl 81 .u32 _ Sum.H0 rfl n1 8 info_8 rfl rfl ?_))
  have m1 := n1.setRow (eight_wf eight_H0)
  have m0 := n0.setRow_other (g' := w.heap.size + 1) (by omega) (arr .u32 Sum.H0)
  have b2 : Below w.heap.size w (((w.alloc (.cells (arr .u8 (List.replicate 32 0)) 22)).alloc (.cells (arr .u32 (List.replicate 8 0)) 81)).setRow (w.heap.size + 1) (arr .u32 Sum.H0)) :=
    (((Below.refl _ w).alloc (Nat.le_refl _) _).alloc (by simp) _).grown (grown_setRow _ _ _) (by simp; omega) (fun r e => by cases e; omega)
  have z2 : (((w.alloc (.cells (arr .u8 (List.replicate 32 0)) 22)).alloc (.cells (arr .u32 (List.replicate 8 0)) 81)).setRow (w.heap.size + 1) (arr .u32 Sum.H0)).heap.size = w.heap.size + 2 := by simp
  obtain ⟨W2, hW2⟩ : ∃ W2, ((w.alloc (.cells (arr .u8 (List.replicate 32 0)) 22)).alloc (.cells (arr .u32 (List.replicate 8 0)) 81)).setRow (w.heap.size + 1) (arr .u32 Sum.H0) = W2 := ⟨_, rfl⟩
  rw [hW2] at m1 m0 b2 z2
  refine ⟨trivial, ?_⟩
  refine (callsIn_wide.2 (blocks_any A m c _)).mono ?_
  rintro e W3 ⟨rfl, hW3⟩
  have e3 : W3 = W2.alloc (.cells #[.slice A m c] 85) := by rw [hW3, ← hW2]; rfl
  clear hW3 hW2 n1 n0 hg1 hg0
  have hz3 : W3.heap.size = w.heap.size + 2 + 1 := by rw [e3, World.size_alloc, z2]
  have h3 : W3.cell? ⟨w.heap.size + 2, 0, none⟩ = some (.slice A m c) := by
    rw [e3, ← z2, cell_of_row _ _ 0 _ _ (0, 0) (heap_alloc_new W2 _)]; rfl
  have b3 : Below w.heap.size w W3 := by rw [e3]; exact b2.alloc (by omega) _
  have m13 : Row W3 (w.heap.size + 1) 81 .u32 Sum.H0 := by rw [e3]; exact m1.alloc _
  have m03 : Row W3 w.heap.size 22 .u8 (List.replicate 32 0) := by rw [e3]; exact m0.alloc _
  have p3 := (h.below (b3.mono hB))
  have T3 := (ht.below (b3.mono hB))
  have K3 := hT1.below b3 hT1.lt
  have lk := hT1.lt
  clear e3 m1 m0 b2 z2 h ht W2
  have hwf : W3.heap.size = w.heap.size + 3 := hz3
  have hne : ∀ i, w.heap.size + 2 ≤ i → i ≠ w.heap.size + 1 := fun i h e => by omega
  obtain ⟨msg, hmsg⟩ : ∃ msg, xss.flatten ++ padI xss.flatten.length = msg := ⟨_, rfl⟩
  have hit := fun n => iter_far n (w.heap.size + 1) (w.heap.size + 1 + 1) B A m c vs xss W3 h3 p3 T3 (by omega) (by omega) hm hn
  simp only [hmsg] at hit
  have hMB : Bs msg := fun z hz => by
    rw [← hmsg] at hz
    rcases List.mem_append.1 hz with h | h
    · exact hb z h
    · exact pad_bytes _ z h
  have HS := Lib.hid (show Sum.sha xss.flatten = outB (blocksI msg (msg.length / 64)) by
    unfold Sum.sha
    rw [hmsg, ← List.length_append, hmsg])
  clear hmsg hb hn
  gi_wp2_with fail
  refine wpIn_rangeFunc_far rfl (by omega) (gf := 70) (lb := #[.pointer (some ⟨w.heap.size + 1 + 1, 0, none⟩)]) rfl trivial (enters_of Tryd.func70 (by kernel_rfl) rfl)
    (hit _) (fun h k => h.trans k) (fun W l o o' hl ho hc _ => Only.put W l o o' ho hc) (Below.refl _ _) (fun _ => rfl)
    (Inv w msg) (Inv.far w _ (by omega)) ⟨m13, m03, b3⟩
    (fun x a' pre W => Inv w msg pre W ∧ ∃ Bx, w.heap.size + 3 ≤ Bx ∧ Row W Bx 86 .u8 x ∧ a' = { tmps := #[.slice A m c, undef, .pointer (some ⟨w.heap.size, 0, none⟩), .pointer (some ⟨w.heap.size + 1, 0, none⟩), .pointer (some ⟨Bx, 0, none⟩), undef, undef, undef, .agg (arr .u32 Sum.H0), .slice A m c, .func (.func 70) #[] #[.pointer (some ⟨w.heap.size + 1 + 1, 0, none⟩)], .agg (arr .u8 x), undef, undef, undef, undef, undef, undef, undef, undef, undef, undef, undef, undef, undef, undef, undef, undef, undef, undef, undef], defers := [] }) ?ib ?assign ?body ?done
  case ib =>
    rintro x a' pre W W' row ⟨hi, Bx, h1, h2, h3⟩ hg hr
    refine ⟨Inv.far w _ (B := w.heap.size + 2) (Nat.le_refl _) pre W W' row hi hg (fun r e => by have := (hr r e).1; omega), Bx, h1, h2.grown hg (fun e => ?_), h3⟩
    obtain ⟨_, o, ho, hc⟩ := hr Bx e.symm
    rw [h2.2] at ho
    cases ho
    cases hc
  case assign =>
    intro l pre x W K hi hp hsz hK
    have hx := chunks_mem (hp.subset (by simp) : x ∈ chunks msg)
    have hxw : ∀ z ∈ x, (Lit.int .u8 z).wf = true := fun z hz => by
      have hz' := hMB z (hx.2 z hz)
      simp [Lit.wf, IntKind.min, IntKind.max, IntKind.signed, IntKind.bits]; omega
    have HXL := Lib.hid hx.1
    have nw := Row.new (zs := List.replicate 64 0) (k := .u8) W 86 (fun z hz => by rw [List.eq_of_mem_replicate hz]; rfl)
    clear hx
    gi_wp2_with (refine wpListIn_store_Row rfl 86 _ _ rfl W.heap.size rfl 86 .u8 _ x rfl nw 64 info_64 HXL.out rfl ?_)
    have bw : Below W.heap.size W ((W.alloc (.cells (arr .u8 (List.replicate 64 0)) 86)).setRow W.heap.size (arr .u8 x)) := ((Below.refl _ W).alloc (Nat.le_refl _) _).grown (grown_setRow _ _ _) (by simp) (fun r e => by cases e; exact Nat.le_refl _)
    refine hK _ _ ((KeepsOthers.alloc _ _).trans (KeepsOthers.of_grownBy (grown_setRow _ _ _) (fun j o e ho => ?_))) (Only.of_below bw) ⟨Inv.far w _ (B := w.heap.size + 2) (Nat.le_refl _) pre W _ none hi (grown_of_below bw none) (fun r e => by cases e), W.heap.size, by omega, nw.setRow hxw, rfl⟩
    cases e
    obtain rfl := Option.some.inj (nw.2.symm.trans ho)
    rfl
  case body =>
    rintro l pre x a' W ⟨⟨i1, i0, ib⟩, Bx, hBx, hrx, rfl⟩ hp hsz
    have hx := chunks_mem (hp.subset (by simp) : x ∈ chunks msg)
    have hxb : Bs x := fun z hz => hMB z (hx.2 z hz)
    have HXL := Lib.hid hx.1
    have HPN := Lib.hid (prefix_next hp)
    have h8 := eight_blocks msg pre.length
    have H8 := Lib.hid h8.1
    have kT := hT1.below ib lk
    clear hx hp
    gi_wp2_with (first
      | (refine wpListIn_load_Row rfl 81 _ rfl (w.heap.size + 1) rfl 81 .u32 _ i1 8 38 Tryd.underlying81 info_8 H8.out ?_)
      | (refine wpListIn_load_Row rfl 86 _ rfl Bx rfl 86 .u8 _ hrx 64 5 Tryd.underlying86 info_64 HXL.out ?_))
    refine ⟨trivial, ?_⟩
    refine (CallsIn.inRound l (callsIn_wide.2 (fold_any _ x _ h8 hxb HXL.out kT))).mono ?_
    rintro e W4 ⟨rfl, hb4⟩
    have q1 := i1.below hb4 i1.lt
    have q0 := i0.below hb4 i0.lt
    have L8 : (Sum.block (blocksI msg pre.length) x).length = 8 := (Eight.sumUp _ _).1
    have H9 := Lib.hid L8
    clear L8
    gi_wp2_with (refine wpListIn_store_Row rfl 81 _ _ rfl (w.heap.size + 1) rfl 81 .u32 _ _ rfl q1 8 info_8 H9.out H8.out ?_)
    have e9 : blocksI msg (pre ++ [x]).length = Sum.block (blocksI msg pre.length) x := by
      rw [List.length_append, List.length_singleton, blocksI, ← HPN.out.2]
    have r1 := q1.setRow (eight_wf (Eight.sumUp (blocksI msg pre.length) (Sum.rounds (Sum.W x) 64 (blocksI msg pre.length))))
    refine ⟨(KeepsOthers.of_grownBy (grown_of_below hb4 none) (fun j o e => by cases e)).trans (KeepsOthers.of_grownBy (grown_setRow _ _ _) (fun j o e ho => ?_)),
      (Only.of_below hb4).trans (Only.of_grown (grown_setRow _ _ _) (fun r e => by cases e; rfl)), ?_, q0.setRow_other (by omega) _, (ib.trans (hb4.mono (by omega))).grown (grown_setRow _ _ _) (by have := hb4.size; omega) (fun r e => by cases e; omega)⟩
    · cases e
      obtain rfl := Option.some.inj (q1.2.symm.trans ho)
      rfl
    · rw [e9]; exact r1
  case done =>
    intro D W hD ⟨i1, i0, ib⟩ hDl
    rw [chunks_length] at i1
    have h8 := eight_blocks msg (msg.length / 64)
    generalize blocksI msg (msg.length / 64) = hh at i1 HS h8
    have H8 := Lib.hid h8.1
    have ls := i1.lt
    have b1 := i1.alloc (.cells (arr .u8 (List.replicate 32 0)) 22)
    have b0 := i0.alloc (.cells (arr .u8 (List.replicate 32 0)) 22)
    have bb := ib.alloc (by omega) (.cells (arr .u8 (List.replicate 32 0)) 22)
    have bn := Row.new (zs := List.replicate 32 0) (k := .u8) W 22 (fun z hz => by rw [List.eq_of_mem_replicate hz]; rfl)
    have bD := (Below.heap_alloc W (.cells (arr .u8 (List.replicate 32 0)) 22) D (Array.getElem?_eq_some_iff.1 hDl).1).trans hDl
    gi_wp2_with (refine wpListIn_load_Row rfl 81 _ rfl (w.heap.size + 1) rfl 81 .u32 _ b1 8 38 Tryd.underlying81 info_8 H8.out ?_)
    have gS := W.heap.size
    rw [← outPart_start hh] at bn
    gi_loopw [16] (fun i wr => ∃ k : Nat, k ≤ 8 ∧ i = .int .i64 k ∧ wr.heap[D]? = some (.deferred (some [])) ∧ Row wr W.heap.size 22 .u8 (outPart hh k) ∧ Row wr w.heap.size 22 .u8 (List.replicate 32 0) ∧ Below w.heap.size w wr) (fun i _ => 8 - (intOf i).toNat)
    case atStart => exact ⟨0, by omega, rfl, bD, bn, b0, bb⟩
    case round =>
      clear bD bn b0 bb b1 i1 i0 ib hDl
      obtain ⟨k, hk, rfl, dD, rn, r0, rb⟩ := hrel
      have hDW : D ≠ W.heap.size := fun e => by
        have := rn.2
        rw [← e, dD] at this
        cases this
      by_cases hlt : k < 8
      · have hidx := fun W' => run_index_arr (P := Tryd.prog) 81 38 8 .u32 hh k W' Tryd.underlying81 (by kernel_rfl) (by kernel_rfl) H8.out hlt
        have hsl : ∀ W', (Instr.sliceAt 22 (.pointer (some ⟨W.heap.size, 0, none⟩)) (some (.int .i64 (4 * (k : Int)))) (some (.int .i64 (4 * (k : Int) + 4))) none).run Tryd.prog W' = .ok (.slice (some ⟨W.heap.size, 4 * k, none⟩) 4 (32 - 4 * k)) W' := fun W' => by
          have := run_slice_arr_lh (P := Tryd.prog) 22 5 32 W.heap.size (4 * k) (4 * k + 4) W' Tryd.underlying22 (by kernel_rfl) (by omega) (by omega) (by omega)
          rw [show 4 * k + 4 - 4 * k = 4 by omega] at this
          exact_mod_cast this
        have hx : R32 (hh.getD k 0) := by
          rw [List.getD_eq_getElem?_getD, List.getElem?_eq_getElem (by rw [H8.out]; exact hlt)]
          exact h8.2 _ (List.getElem_mem _)
        have HST := Lib.hid (outPart_step hh hlt)
        have hlt' : (k : Int) < 8 := by omega
        have hk0 : (0 : Int) ≤ (k : Int) := by omega
        have hx1 := hx.1
        have hx2 := hx.2
        generalize hh.getD k 0 = x at hidx hx1 hx2 hx HST
        gi_wp2_with fail
        refine ⟨trivial, ?_⟩
        refine (callsIn_wide.2 (put_any W.heap.size (4 * k) 4 _ _ _ x _ (by omega) (by omega) rn (by rw [outPart_length]; omega) (by omega))).mono ?_
        rintro e W5 ⟨rfl, r5, g5⟩
        rw [HST.out] at r5
        have dD5 := (g5.block D (Array.getElem?_eq_some_iff.1 dD).1 (fun e => hDW (Option.some.inj e))).trans dD
        have r05 := r0.grown g5 (fun e => by have := Option.some.inj e; omega)
        have rb5 := rb.grown g5 rb.size (fun r e => by cases e; omega)
        gi_wp2_with fail
        go_roundw
        case rel => exact ⟨k + 1, by omega, by go_num, dD5, r5, r05, rb5⟩
        case measure => simp [intOf]; omega
      · have hk8 : k = 8 := by omega
        subst hk8
        rw [outPart_end] at rn
        have HO := Lib.hid (out_length hh)
        gi_wp2_with (first
          | (refine wpListIn_load_Row rfl 22 _ rfl W.heap.size rfl 22 .u8 _ rn 32 5 Tryd.underlying22 info_32 HO.out ?_)
          | (refine wpListIn_store_Row rfl 22 _ _ rfl w.heap.size rfl 22 .u8 _ _ rfl r0 32 info_32 HO.out rfl ?_))
        have r9 := r0.setRow rn.1
        have hD0 : D ≠ w.heap.size := by omega
        have dD9 := (setRow_other wr w.heap.size D (arr .u8 (outB hh)) hD0).trans dD
        refine ⟨by simp, .inl ⟨_, _, rfl, run_takeDeferred dD9, ?_⟩⟩
        have r10 : Row ((wr.setRow w.heap.size (arr .u8 (outB hh))).putObj D (.deferred none)) w.heap.size 22 .u8 (outB hh) := ⟨r9.1, (World.putObj_heap_other (fun e => hD0 e.symm)).trans r9.2⟩
        refine ⟨.agg (arr .u8 (outB hh)), results_Row rfl _ _ w.heap.size _ _ _ rfl r10 32 5 Tryd.underlying22 info_32 HO.out, by rw [HS.out], ?_⟩
        exact (rb.grown (grown_setRow _ _ _) rb.size (fun r e => by cases e; exact Nat.le_refl _)).grown (grownBy_putObj' _ D _) (by have := rb.size; simp; omega) (fun r e => by cases e; omega)
end Go.Proofs.YtoelgcdjhekafaaDoor.Sha
namespace Go.Proofs.YtoelgcdjhekafaaDoor.Sha
open Go.RowKit Go.Proofs.YtoelgcdjhekafaaDoor.Mem Go.Proofs.YtoelgcdjhekafaaDoor.Sum Go.ChangeShapes Go.WideShapes
set_option linter.unusedVariables false

theorem vals_of_cells {w : World} {a : Addr} {m : Nat} (V : Nat → Value) (h1 : ∀ r, r < m → (V r).oneCell' = true) (h : ∀ r, r < m → w.cell? (a.add r) = some (V r)) :
    Vals w w.heap.size (some a) m ((List.range m).map V) := by
  refine ⟨by simp, fun v hv => ?_, fun hn => ?_⟩
  · obtain ⟨r, hr, rfl⟩ := List.mem_map.1 hv
    exact h1 r (List.mem_range.1 hr)
  · obtain ⟨b, off, spot⟩ := a
    have h0 := h 0 hn
    have hspot : spot = none := by simpa [Addr.add] using World.cell?_spot h0
    subst hspot
    have hlt : b < w.heap.size := by simpa [Addr.add] using World.block_lt_of_cell? w _ h0
    refine ⟨b, off, rfl, hlt, fun i hi => ?_⟩
    have := h i hi
    have e : (Addr.mk b off none).add i = ⟨b, off + i, none⟩ := by unfold Addr.add; split <;> simp_all
    rw [e] at this
    rw [this]
    simp [List.getD_eq_getElem?_getD, hi]

theorem open_texts {H : Type} {enc : TypeId × Value → H} {P : Program} {w : World} {base : Nat} {held : Bool} {t e q : TypeId} {A : Option Addr} {m c : Nat} {d : DataW H} {p : List MemPlace}
    (ht : P.underlying t = some (.slice e)) (he : P.underlying e = some (.slice q)) (hq : P.underlying q = some (.int .u8)) (ce : P.cellsOf e = 1) (cq : P.cellsOf q = 1)
    (h : DataW.Trod enc P w base (fun _ => true) held t (.slice A m c) d p) : ∃ vs xss, Vals w w.heap.size A m vs ∧ Texts w w.heap.size vs xss := by
  obtain ⟨fuel, hf⟩ := h
  rcases Deep.open_int_rows ht he hq ce cq hf with ⟨hcs, _⟩ | ⟨a, len, cap, A', L, C, Z, hcs, _, hl, hm, _, hx⟩
  · simp [Value.cells] at hcs
    obtain ⟨rfl, rfl, rfl⟩ := hcs
    exact ⟨[], [], Vals.nil _ _ _, Texts.nil _ _⟩
  · simp [Value.cells] at hcs
    obtain ⟨rfl, rfl, rfl⟩ := hcs
    refine ⟨(List.range m).map fun r => .slice (A' r) (L r) (C r), (List.range m).map fun r => (Z r).take (L r), vals_of_cells _ (fun _ _ => rfl) (fun r hr => (hx r (by omega)).1), by simp, fun i hi => ?_⟩
    have hi' : i < m := by simpa using hi
    obtain ⟨_, r1, r2, r3, r4, r5, r6⟩ := hx i (by omega)
    refine ⟨A' i, L i, C i, by simp [List.getD_eq_getElem?_getD, hi'], r1, r2, ?_⟩
    have e : ((List.range m).map fun r => (Z r).take (L r)).getD i [] = (Z i).take (L i) := by simp [List.getD_eq_getElem?_getD, hi']
    rw [e]
    refine (ints_of_row (cap := C i) ?_).1
    cases hA : A' i with
    | none => have := r5 hA; exact .inl ⟨rfl, by omega, this, List.eq_nil_of_length_eq_zero (by omega)⟩
    | some x => exact .inr ⟨x, rfl, r1, r2, r3, fun j hj => (r6 x hA).2 j (by omega), r4⟩

theorem Texts.bs {w : World} {B : Nat} {vs : List Value} {xss : List (List Int)} (h : Texts w B vs xss) : Bs xss.flatten := fun z hz => by
  obtain ⟨xs, hxs, hz⟩ := List.mem_flatten.1 hz
  obtain ⟨i, hi, rfl⟩ := List.mem_iff_getElem.1 hxs
  obtain ⟨A, n, c, _, _, _, hh⟩ := h.2 i (by rw [h.1]; exact hi)
  have e : xss.getD i [] = xss[i] := by simp [List.getD_eq_getElem?_getD, hi]
  rw [e] at hh
  exact wf_u8 (hh.2.1 z hz)
theorem flat_succ (xss : List (List Int)) {k : Nat} (h : k < xss.length) : (xss.take (k + 1)).flatten = (xss.take k).flatten ++ xss.getD k [] := by
  rw [List.take_add_one, List.getElem?_eq_getElem h, List.flatten_append]
  simp [List.getD_eq_getElem?_getD, h]
end Go.Proofs.YtoelgcdjhekafaaDoor.Sha
namespace Go.Proofs.YtoelgcdjhekafaaDoor.Sha
open Go.RowKit Go.Proofs.YtoelgcdjhekafaaDoor.Mem Go.Proofs.YtoelgcdjhekafaaDoor.Help Go.Proofs.YtoelgcdjhekafaaDoor.Sum
set_option linter.unusedVariables false

theorem rowInts {w : World} {g n : Nat} {zs : List Int} {f : Int} (hr : Row w g 5 .u8 (zs ++ [f, f, f])) (hl : zs.length = n) : Ints w .u8 w.heap.size (some ⟨g, 0, none⟩) n zs := by
  have hi := hr.ints (n := n) (by simp; omega)
  rwa [List.take_left' hl] at hi
theorem Texts.cons {w : World} {B : Nat} {v : Value} {vs : List Value} {xs : List Int} {xss : List (List Int)} (h : Texts w B [v] [xs]) (k : Texts w B vs xss) : Texts w B (v :: vs) (xs :: xss) := h.append k

theorem sum_built (w : World) (n c : Nat) (vs : List Value) (xss : List (List Int)) (zs : List Int) (hv : vs.length = n) (hn : n ≤ 1000) (ht : Texts w w.heap.size vs xss) (hx : xss.flatten = zs) (hz : zs.length ≤ 1099511627776)
    (hT0 : Tab w 3 Sum.H0) (hT1 : Tab w 4 Sum.K) :
    Calls Tryd.prog 64 #[.slice (some ⟨w.heap.size, 0, none⟩) n c] (w.alloc (.cells vs.toArray 34)) fun e w' => e = .returned (.agg (arr .u8 (Sum.sha zs))) ∧ Below w.heap.size w w' := by
  subst hv
  subst hx
  have p1 := Vals.new w 34 vs ht.one_cell
  have hb1 : Below w.heap.size w (w.alloc (.cells vs.toArray 34)) := (Below.refl _ w).alloc (Nat.le_refl _) _
  have t1 := (ht.below hb1).more (B' := w.heap.size + 1) (by omega)
  refine (sum_any _ _ _ c _ xss _ p1 t1 (by simp) (by omega) hz ht.bs (hT0.below hb1 hT0.lt) (hT1.below hb1 hT1.lt)).mono ?_
  rintro e w' ⟨rfl, hb⟩
  exact ⟨rfl, hb1.trans (hb.mono (by simp))⟩
theorem sum_one (w : World) (B : Nat) (A : Option Addr) (n c d : Nat) (zs : List Int) (h : Ints w .u8 B A n zs) (hB : B ≤ w.heap.size) (hd : n ≤ d) (hd' : d ≤ maxLen) (hn : n ≤ 1099511627776)
    (hT0 : Tab w 3 Sum.H0) (hT1 : Tab w 4 Sum.K) :
    Calls Tryd.prog 64 #[.slice (some ⟨w.heap.size, 0, none⟩) 1 c] (w.alloc (.cells #[.slice A n d] 34)) fun e w' => e = .returned (.agg (arr .u8 (Sum.sha zs))) ∧ Below w.heap.size w w' :=
  sum_built w 1 c [.slice A n d] [zs] zs rfl (by omega) (Texts.one (h.more hB) hd hd') (by simp) (by rw [h.1]; exact hn) hT0 hT1
theorem sum_two (w : World) (B B' : Nat) (A A' : Option Addr) (n n' c d d' : Nat) (zs zs' : List Int) (h : Ints w .u8 B A n zs) (h' : Ints w .u8 B' A' n' zs') (hB : B ≤ w.heap.size) (hB' : B' ≤ w.heap.size) (hd : n ≤ d) (hd' : d ≤ maxLen)
    (hq : n' ≤ d') (hq' : d' ≤ maxLen) (hn : n + n' ≤ 1099511627776) (hT0 : Tab w 3 Sum.H0) (hT1 : Tab w 4 Sum.K) :
    Calls Tryd.prog 64 #[.slice (some ⟨w.heap.size, 0, none⟩) 2 c] (w.alloc (.cells #[.slice A n d, .slice A' n' d'] 34)) fun e w' => e = .returned (.agg (arr .u8 (Sum.sha (zs ++ zs')))) ∧ Below w.heap.size w w' :=
  sum_built w 2 c [.slice A n d, .slice A' n' d'] [zs, zs'] (zs ++ zs') rfl (by omega) ((Texts.one (h.more hB) hd hd').cons (Texts.one (h'.more hB') hq hq')) (by simp) (by rw [List.length_append, h.1, h'.1]; exact hn) hT0 hT1
end Go.Proofs.YtoelgcdjhekafaaDoor.Sha
namespace Go.Proofs.YtoelgcdjhekafaaDoor.Mac
open Go.RowKit Go.Proofs.YtoelgcdjhekafaaDoor.Mem Go.Proofs.YtoelgcdjhekafaaDoor.Help Go.Proofs.YtoelgcdjhekafaaDoor.Sum Go.Proofs.YtoelgcdjhekafaaDoor.Sha
set_option linter.unusedVariables false
attribute [local irreducible] wpList wpListIn

/-- a key that is too long goes by its sum -/
def fit (key : List Int) : List Int := if 64 < key.length then Sum.sha key else key
/-- the key as a block, with zeros behind it -/
def blk (key : List Int) : List Int := fit key ++ List.replicate (64 - (fit key).length) 0
def flip (t x : Int) : Int := bits .xor .u8 x t
def turned (t : Int) (zs : List Int) : List Int := zs.map (flip t)
/-- HMAC -/
def tag (key msg : List Int) : List Int := Sum.sha (turned 92 (blk key) ++ Sum.sha (turned 54 (blk key) ++ msg))

theorem sha_length (zs : List Int) : (Sum.sha zs).length = 32 := out_length _
theorem sha_bytes (zs : List Int) : Bs (Sum.sha zs) := out_bytes _
theorem fit_length (key : List Int) : (fit key).length ≤ 64 := by
  unfold fit
  split
  · rw [sha_length]; omega
  · omega
theorem blk_length (key : List Int) : (blk key).length = 64 := by have := fit_length key; simp [blk]; omega
theorem wf_of_byte {z : Int} (h : 0 ≤ z ∧ z ≤ 255) : (Lit.int .u8 z).wf = true := by simp [Lit.wf, IntKind.min, IntKind.max, IntKind.signed, IntKind.bits]; omega
theorem fit_bytes {key : List Int} (h : Bs key) : Bs (fit key) := by
  unfold fit
  split
  · exact sha_bytes _
  · exact h
theorem blk_bytes {key : List Int} (h : Bs key) : Bs (blk key) := fun z hz => by
  rcases List.mem_append.1 hz with h1 | h1
  · exact fit_bytes h z h1
  · rw [List.eq_of_mem_replicate h1]; omega
theorem flip_wf (t x : Int) : (Lit.int .u8 (flip t x)).wf = true := wf_bits _ _ _ _
theorem turned_length (t : Int) (zs : List Int) : (turned t zs).length = zs.length := by simp [turned]
theorem turned_wf (t : Int) (zs : List Int) : ∀ z ∈ turned t zs, (Lit.int .u8 z).wf = true := fun z hz => by
  obtain ⟨x, _, rfl⟩ := List.mem_map.1 hz
  exact flip_wf _ _
theorem turned_bytes (t : Int) (zs : List Int) : Bs (turned t zs) := fun z hz => wf_u8 (turned_wf t zs z hz)
theorem tag_length (key msg : List Int) : (tag key msg).length = 32 := sha_length _
theorem tag_bytes (key msg : List Int) : Bs (tag key msg) := sha_bytes _

/-- the first k turned -/
def part (t : Int) (zs : List Int) (k : Nat) : List Int := turned t (zs.take k) ++ zs.drop k
theorem part_start (t : Int) (zs : List Int) : part t zs 0 = zs := by simp [part, turned]
theorem part_end (t : Int) (zs : List Int) {k : Nat} (h : zs.length ≤ k) : part t zs k = turned t zs := by simp [part, List.take_of_length_le h, List.drop_of_length_le h]
theorem part_get (t : Int) (zs : List Int) {k : Nat} (h : k < zs.length) : (part t zs k).getD k 0 = zs.getD k 0 := by
  have hl : (turned t (zs.take k)).length = k := by rw [turned_length, List.length_take]; omega
  rw [part, List.getD_eq_getElem?_getD, List.getElem?_append_right (by omega), hl, List.getElem?_drop]
  simp [List.getD_eq_getElem?_getD]
theorem part_set (t : Int) (zs : List Int) {k : Nat} (h : k < zs.length) : (part t zs k).set k (flip t (zs.getD k 0)) = part t zs (k + 1) := by
  have hl : (turned t (zs.take k)).length = k := by rw [turned_length, List.length_take]; omega
  unfold part
  rw [List.set_append_right _ _ (by omega), hl, Nat.sub_self, List.drop_eq_getElem_cons h, List.set_cons_zero, List.take_succ_eq_append_getElem h]
  rw [show turned t (zs.take k ++ [zs[k]]) = turned t (zs.take k) ++ [flip t zs[k]] by rw [turned, List.map_append]; rfl, List.append_assoc, List.getD_eq_getElem?_getD, List.getElem?_eq_getElem h]
  rfl

theorem info_64m : (Tryd.prog.info? 86).map (·.size) = some 64 := by kernel_rfl
theorem fit_over {key : List Int} : laidOver (List.replicate 64 0) 0 (fit key) = blk key := by
  rw [laidOver, List.take_zero, List.nil_append, Nat.zero_add, List.drop_replicate, blk]

theorem zero_64 : (Tryd.prog.info? 86).bind (·.zero) = some (.agg (arr .u8 (List.replicate 64 0))) := by kernel_rfl
theorem zero_32 : (Tryd.prog.info? 22).bind (·.zero) = some (.agg (arr .u8 (List.replicate 32 0))) := by kernel_rfl

set_option maxRecDepth 100000 in
set_option maxHeartbeats 4000000 in
theorem fitted_any (B : Nat) (A : Option Addr) (n c : Nat) (zs : List Int) (w : World) (h : Ints w .u8 B A n zs) (hB : B ≤ w.heap.size) (hc : n ≤ c) (hc' : c ≤ maxLen) (hn : n ≤ 1099511627776)
    (hT0 : Tab w 3 Sum.H0) (hT1 : Tab w 4 Sum.K) :
    Calls Tryd.prog 60 #[.slice A n c] w fun e w' => e = .returned (.agg (arr .u8 (blk zs))) ∧ Below w.heap.size w w' := by
  have hL := h.1
  have hsl32 := fun W g => run_slice_arr_all (P := Tryd.prog) 22 5 32 g W Tryd.underlying22 (by kernel_rfl) (by omega)
  have hsl64 := fun W g => run_slice_arr_all (P := Tryd.prog) 86 5 64 g W Tryd.underlying86 (by kernel_rfl) (by omega)
  have HB := Lib.hid (blk_length zs)
  by_cases hbig : 64 < n
  · have hbig' : (64 : Int) < (n : Int) := by omega
    have hfit : fit zs = Sum.sha zs := by unfold fit; rw [if_pos (by omega)]
    have HF := Lib.hid hfit
    clear hL hfit
    go_enter Tryd.func60, Tryd.ntmps60
    go_wp2_with (refine wpList_alloc_Row rfl 86 rfl .u8 64 zero_64 ?_; intro w0 r0 g0 z0)
    have b0 : Below w.heap.size w w0 := (Below.refl _ w).grown g0 (Nat.le_refl _) (by simp)
    have s0 : w.heap.size < w0.heap.size := r0.lt
    refine (sum_one _ B A n _ c zs (h.below (b0.mono hB)) (by omega) hc hc' hn (hT0.below b0 hT0.lt) (hT1.below b0 hT1.lt)).mono ?_
    rintro e w1 ⟨rfl, hb1⟩
    have b1 := b0.trans (hb1.mono (by omega))
    have s1 := hb1.size
    have r1 := r0.below hb1 (by omega)
    clear hb1 b0 hT0 hT1 h
    go_wp2_with (first
      | (refine wpList_alloc_Row rfl 22 rfl .u8 32 zero_32 ?_; intro w2 r2 g2 z2)
      | (refine wpList_store_RowTo rfl 22 _ _ rfl w1.heap.size rfl 22 .u8 _ (Sum.sha zs) rfl r2 32 info_32 (sha_length _) (by simp) (fun z hz => wf_of_byte (sha_bytes _ z hz)) ?_; intro wX r3 g3 z3; have iX := r3.ints (n := 32) (by rw [sha_length]; omega); rw [List.take_of_length_le (by rw [sha_length]; omega), ← HF.out] at iX; have rX := (r1.grown g2 (by simp)).grown g3 (by intro e; injection e with e; omega); have lX := rX.lt)
      | (refine wpList_alloc_Row rfl 86 rfl .u8 64 zero_64 ?_; intro w5 r5 g5 z5; have jX := iX.keep (w' := w5) fun p hp => World.cell?_of_block (g5.block _ hp (by simp)); have r5X := rX.grown g5 (by simp))
      | (refine wpList_copy_Row rfl _ _ 34 34 rfl 5 Tryd.underlying34 (by kernel_rfl) wX.heap.size 0 64 64 wX.heap.size (some ⟨w1.heap.size, 0, none⟩) 32 32 rfl rfl 86 .u8 _ (fit zs) r5 jX (by simp) ?_; intro w6 r6 g6 z6; rw [List.take_of_length_le (by rw [iX.1]; omega), fit_over] at r6; have r6X := r5X.grown g6 (by intro e; injection e with e; omega))
      | (refine wpList_load_Row rfl 86 _ rfl wX.heap.size rfl 86 .u8 _ r6 64 5 Tryd.underlying86 info_64m HB.out ?_)
      | (refine wpList_store_RowTo rfl 86 _ _ rfl w.heap.size rfl 86 .u8 _ (blk zs) rfl r6X 64 info_64m HB.out (by simp) r6.1 ?_; intro w7 r7 g7 z7))
    have bX : Below w.heap.size w wX := (b1.grown g2 b1.size (by simp)).grown g3 (by have := g2.size; omega) (fun r e => by cases e; omega)
    have b7 : Below w.heap.size w w7 := ((bX.grown g5 bX.size (by simp)).grown g6 (by have := g5.size; omega) (fun r e => by cases e; omega)).grown g7 (by have := g5.size; have := g6.size; omega) (fun r e => by cases e; omega)
    exact bodyPost_ret (results_Row rfl _ _ w.heap.size _ _ _ rfl r7 64 5 Tryd.underlying86 info_64m HB.out) rfl ⟨rfl, b7⟩
  · have hbig' : ¬ (64 : Int) < (n : Int) := by omega
    have hfit : fit zs = zs := by unfold fit; rw [if_neg (by omega)]
    have HF := Lib.hid hfit
    clear hL hfit
    go_enter Tryd.func60, Tryd.ntmps60
    go_wp2_with (first
      | (refine wpList_alloc_Row (w := w) rfl 86 rfl .u8 64 zero_64 ?_; intro wX rX gX zX; have lX := rX.lt; have iX := h.keep (w' := wX) fun p hp => World.cell?_of_block (gX.block _ (by omega) (by simp)))
      | (refine wpList_alloc_Row (w := wX) rfl 86 rfl .u8 64 zero_64 ?_; intro w5 r5 g5 z5; have jX := iX.keep (w' := w5) fun p hp => World.cell?_of_block (g5.block _ (by omega) (by simp)); have r5X := rX.grown g5 (by simp))
      | (refine wpList_copy_Row rfl _ _ 34 34 rfl 5 Tryd.underlying34 (by kernel_rfl) wX.heap.size 0 64 64 B A n c rfl rfl 86 .u8 _ zs r5 jX (by simp) ?_; intro w6 r6 g6 z6; rw [List.take_of_length_le (by rw [h.1]; omega), ← HF.out, fit_over] at r6; have r6X := r5X.grown g6 (by intro e; injection e with e; omega))
      | (refine wpList_load_Row rfl 86 _ rfl wX.heap.size rfl 86 .u8 _ r6 64 5 Tryd.underlying86 info_64m HB.out ?_)
      | (refine wpList_store_RowTo rfl 86 _ _ rfl w.heap.size rfl 86 .u8 _ (blk zs) rfl r6X 64 info_64m HB.out (by simp) r6.1 ?_; intro w7 r7 g7 z7))
    have bX : Below w.heap.size w wX := (Below.refl _ w).grown gX (Nat.le_refl _) (by simp)
    have b7 : Below w.heap.size w w7 := ((bX.grown g5 bX.size (by simp)).grown g6 (by have := g5.size; omega) (fun r e => by cases e; omega)).grown g7 (by have := g5.size; have := g6.size; omega) (fun r e => by cases e; omega)
    exact bodyPost_ret (results_Row rfl _ _ w.heap.size _ _ _ rfl r7 64 5 Tryd.underlying86 info_64m HB.out) rfl ⟨rfl, b7⟩
end Go.Proofs.YtoelgcdjhekafaaDoor.Mac
namespace Go.Proofs.YtoelgcdjhekafaaDoor.Mac
open Go.RowKit Go.Shelf Go.Proofs.YtoelgcdjhekafaaDoor.Mem Go.Proofs.YtoelgcdjhekafaaDoor.Help Go.Proofs.YtoelgcdjhekafaaDoor.Sum Go.Proofs.YtoelgcdjhekafaaDoor.Sha Go.Proofs.YtoelgcdjhekafaaDoor.Range
set_option linter.unusedVariables false
attribute [local go_sem] Oper.semAt_some

theorem behind_any (A0 A : Option Addr) (n0 c0 m c : Nat) (w : World) :
    Calls Tryd.prog 65 #[.slice A0 n0 c0, .slice A m c] w fun e w' => e = .returned (.func (.func 69) #[] #[.pointer (some ⟨w.heap.size, 0, none⟩), .pointer (some ⟨w.heap.size + 1, 0, none⟩)]) ∧
      w' = (w.alloc (.cells #[.slice A0 n0 c0] 34)).alloc (.cells #[.slice A m c] 85) := by
  go_enter Tryd.func65, Tryd.ntmps65
  go_wp2
  go_ret
  exact ⟨rfl, rfl⟩

/-- a slice that reads as values, at a block that is none of S -/
def ValsN (w : World) (S : Nat → Prop) (A : Option Addr) (n : Nat) (vs : List Value) : Prop :=
  vs.length = n ∧ (0 < n → ∃ b off, A = some ⟨b, off, none⟩ ∧ ¬ S b ∧ ∀ i, i < n → w.cell? ⟨b, off + i, none⟩ = some (vs.getD i undef))
theorem ValsN.only {S : Nat → Prop} {w w' : World} {A : Option Addr} {n : Nat} {vs : List Value} (h : ValsN w S A n vs) (ho : Only S w w') : ValsN w' S A n vs :=
  ⟨h.1, fun hn => by
    obtain ⟨b, off, e, hb, hc⟩ := h.2 hn
    exact ⟨b, off, e, hb, fun i hi => ho.cell (p := ⟨b, off + i, none⟩) hb (hc i hi)⟩⟩
theorem ValsN.of {S : Nat → Prop} {w : World} {B : Nat} {A : Option Addr} {n : Nat} {vs : List Value} (h : Vals w B A n vs) (hB : ∀ b, b < B → ¬ S b) : ValsN w S A n vs :=
  ⟨h.1, fun hn => by
    obtain ⟨b, off, e, hb, hc⟩ := h.2.2 hn
    exact ⟨b, off, e, hB b hb, hc⟩⟩
theorem ValsN.below {S : Nat → Prop} {w w' : World} {A : Option Addr} {n : Nat} {vs : List Value} (h : ValsN w S A n vs) (hb : Below w.heap.size w w') : ValsN w' S A n vs :=
  ⟨h.1, fun hn => by
    obtain ⟨b, off, e, hS, hc⟩ := h.2 hn
    exact ⟨b, off, e, hS, fun i hi => (hb.cell (p := ⟨b, off + i, none⟩) (World.block_lt_of_cell? w _ (hc i hi))).trans (hc i hi)⟩⟩

theorem take_cons_prefix (v0 : Value) (vs : List Value) {k : Nat} (hk : k < vs.length) : (v0 :: vs.take k) ++ [vs.getD k undef] = v0 :: vs.take (k + 1) := by
  rw [List.cons_append, List.take_succ_eq_append_getElem hk, List.getD_eq_getElem?_getD, List.getElem?_eq_getElem hk]
  rfl

set_option maxRecDepth 100000 in
set_option maxHeartbeats 2000000 in
theorem behind_far (n b1 b2 : Nat) (S : Nat → Prop) (v0 : Value) (A : Option Addr) (m c : Nat) (vs : List Value) (w : World) (h1 : w.cell? ⟨b1, 0, none⟩ = some v0) (h2 : w.cell? ⟨b2, 0, none⟩ = some (.slice A m c)) (hS1 : ¬ S b1) (hS2 : ¬ S b2)
    (ho : v0.oneCell' = true) (hv1 : ∀ v ∈ vs, v.oneCell' = true) (hv : ValsN w S A m vs) (hm : m ≤ 1073741824) :
    SeqFar Fence.wide n Tryd.prog 69 #[.pointer (some ⟨b1, 0, none⟩), .pointer (some ⟨b2, 0, none⟩)] (fun v => #[v]) (Only S) (v0 :: vs) w := by
  intro l J W hW hJ hY h0
  have k1 := (hW.cell (p := ⟨b1, 0, none⟩) (World.block_lt_of_cell? w _ h1)).trans h1
  have k2 := (hW.cell (p := ⟨b2, 0, none⟩) (World.block_lt_of_cell? w _ h2)).trans h2
  have kv := hv.below hW
  have HL := Lib.hid hv.1
  clear h1 h2 hv
  obtain ⟨fn, tmps, assign, body, hy, hR⟩ := hY [] v0 _ h0 ⟨vs, rfl⟩
  refine callsIn_of_wp Tryd.func69 rfl trivial ?_ rfl
  simp only [Tryd.ntmps69, List.size_toArray, List.length_cons, List.length_nil, Nat.reduceAdd, Nat.reduceSub, Array.replicate_succ, Array.replicate_zero, List.push_toArray, List.append_toArray, List.nil_append, List.cons_append]
  gi_wp2_with fail
  refine ⟨fun h => (by cases h), ?_⟩
  refine hR.mono ?_
  rintro e W1 ⟨rfl, J1, o1⟩
  have q2 := o1.cell (p := ⟨b2, 0, none⟩) hS2 k2
  have qv := kv.only o1
  clear hy hR k1 k2 kv h0 o1
  have hmi : (m : Int) ≤ 1073741824 := by omega
  gi_wp2_with fail
  gi_loopw [12] (fun i wr => ∃ k : Nat, k ≤ m ∧ i = .int .i64 k ∧ J (v0 :: vs.take k) wr ∧ Only S W1 wr) (fun i _ => m - (intOf i).toNat)
  case atStart => exact ⟨0, by omega, rfl, by simpa using J1, Only.refl _ _⟩
  case round =>
    obtain ⟨k, hk, rfl, Jk, ok⟩ := hrel
    by_cases hlt : k < m
    · obtain ⟨b, off, rfl, hbS, hc⟩ := (qv.only ok).2 (by omega)
      have hck := hc k hlt
      have hkl : k < vs.length := by rw [HL.out]; exact hlt
      have HP := Lib.hid (take_cons_prefix v0 vs hkl)
      have h1c := hv1 (vs.getD k undef) (by rw [List.getD_eq_getElem?_getD, List.getElem?_eq_getElem hkl]; exact List.getElem_mem hkl)
      generalize vs.getD k undef = v at hck HP h1c
      have hpre : (v0 :: vs.take k) ++ [v] <+: v0 :: vs := by rw [HP.out]; exact List.cons_prefix_cons.2 ⟨rfl, List.take_prefix _ _⟩
      obtain ⟨fn, tmps, assign, body, hy, hR⟩ := hY (v0 :: vs.take k) v wr Jk hpre
      have hlt' : (k : Int) < (m : Int) := by omega
      have hk0 : (0 : Int) ≤ (k : Int) := by omega
      clear hpre hc
      gi_wp2_with fail
      refine ⟨fun h => (by cases h), ?_⟩
      refine hR.mono ?_
      rintro e W4 ⟨rfl, J4, o4⟩
      rw [HP.out] at J4
      gi_wp2_with fail
      go_roundw
      case rel => exact ⟨k + 1, by omega, by go_num, J4, ok.trans o4⟩
      case measure => simp [intOf]; omega
    · have hkm : k = m := by omega
      subst hkm
      rw [List.take_of_length_le (by rw [HL.out]; omega)] at Jk
      gi_wp2_with fail
      go_end0
      exact ⟨⟨_, rfl⟩, Jk⟩
end Go.Proofs.YtoelgcdjhekafaaDoor.Mac
namespace Go.Proofs.YtoelgcdjhekafaaDoor.Mac
open Go.RowKit Go.Shelf Go.Proofs.YtoelgcdjhekafaaDoor.Mem Go.Proofs.YtoelgcdjhekafaaDoor.Help Go.Proofs.YtoelgcdjhekafaaDoor.Sum Go.Proofs.YtoelgcdjhekafaaDoor.Sha Go.Proofs.YtoelgcdjhekafaaDoor.Range
set_option linter.unusedVariables false
attribute [local go_sem] Oper.semAt_some

theorem _root_.Go.Proofs.YtoelgcdjhekafaaDoor.Sha.Texts.slice {w : World} {B : Nat} {vs : List Value} {xss : List (List Int)} (h : Texts w B vs xss) {v : Value} (hv : v ∈ vs) : ∃ A n c, v = .slice A n c := by
  obtain ⟨i, hi, rfl⟩ := List.mem_iff_getElem.1 hv
  obtain ⟨A, n, c, e, _⟩ := h.2 i hi
  rw [List.getD_eq_getElem?_getD, List.getElem?_eq_getElem hi] at e
  exact ⟨A, n, c, e⟩
/-- what stands between two rounds -/
def Inv (w : World) (q g lb m : Nat) (zs : List Int) (pre : List Value) (W : World) : Prop :=
  W.heap[lb]? = some (.cells #[.slice (some ⟨g, 0, none⟩) pre.length (m + 1)] 85 (0, 0)) ∧ W.ownsRow w.heap.size 34 1 (.slice (some ⟨g, 0, none⟩) pre.length (m + 1)) pre.length pre ∧
    Row W w.heap.size 86 .u8 zs ∧ Row W q 22 .u8 (List.replicate 32 0) ∧ Below w.heap.size w W

theorem Inv.far (w : World) (q g lb m : Nat) (zs : List Int) {B : Nat} (hw : w.heap.size < B) (hq : q < B) (hg : g < B) (hl : lb < B) (hwg : w.heap.size ≤ g) : Far B (Inv w q g lb m zs) := by
  intro pre W W' row h hgr hr
  have hne : ∀ i, i < B → some i ≠ row := fun i hi e => by have := hr i e.symm; omega
  obtain ⟨h1, h2, h3, h4, h5⟩ := h
  refine ⟨(hgr.block lb (Array.getElem?_eq_some_iff.1 h1).1 (hne _ hl)).trans h1, h2.kept hgr (.inr (hne _ hg)), h3.grown hgr (hne _ hw), h4.grown hgr (hne _ hq), h5.grown hgr (by have := h3.lt; omega) (fun r e => by have := hr r e; omega)⟩
set_option maxRecDepth 100000 in
set_option maxHeartbeats 4000000 in
theorem keyed_any (t : Int) (zs : List Int) (B : Nat) (A : Option Addr) (m c : Nat) (vs : List Value) (xss : List (List Int)) (w : World) (hz : zs.length = 64) (hzb : Bs zs) (h : Vals w B A m vs) (ht : Texts w B vs xss) (hB : B ≤ w.heap.size) (hm : m ≤ 1048576) (hn : xss.flatten.length ≤ 549755813888)
    (hb : Bs xss.flatten) (hT0 : Tab w 3 Sum.H0) (hT1 : Tab w 4 Sum.K) :
    Calls Tryd.prog 61 #[.agg (arr .u8 zs), .int .u8 t, .slice A m c] w fun e w' => e = .returned (.agg (arr .u8 (Sum.sha (turned t zs ++ xss.flatten)))) ∧ Below w.heap.size w w' := by
  refine (callsIn_wide (n := 3)).1 ?_
  refine callsIn_of_wp_marks Tryd.func61 rfl trivial ?_ rfl
  simp only [Tryd.ntmps61, List.size_toArray, List.length_cons, List.length_nil, Nat.reduceAdd, Nat.reduceSub, Array.replicate_succ, Array.replicate_zero, List.push_toArray, List.append_toArray, List.nil_append, List.cons_append]
  have HZ := Lib.hid hz
  clear hz
  gi_wp2_with (first
    | (refine wpListIn_box_Row rfl 86 _ rfl .u8 zs rfl (fun z hz => wf_of_byte (hzb z hz)) ?_; intro w1 r1 g1 z1)
    | (refine wpListIn_alloc_Row rfl 22 rfl .u8 32 zero_32 ?_; intro w2 r2 g2 z2))
  obtain ⟨q, hq⟩ : ∃ q, w1.heap.size = q := ⟨_, rfl⟩
  have hqw : q = w.heap.size + 1 := by rw [← hq, z1.out]
  rw [hq] at r2 ⊢
  have HQ := Lib.hid hqw
  have b2 : Below w.heap.size w w2 := ((Below.refl _ w).grown g1 (Nat.le_refl _) (by simp)).grown g2 (by have := g1.size; omega) (by simp)
  have r12 := r1.grown g2 (by simp)
  clear hqw hq r1 g1 g2 z1 z2
  gi_loopw [10] (fun i wr => ∃ k : Nat, k ≤ 64 ∧ i = .int .i64 k ∧ Row wr w.heap.size 86 .u8 (part t zs k) ∧ Row wr q 22 .u8 (List.replicate 32 0) ∧ Below w.heap.size w wr) (fun i _ => 64 - (intOf i).toNat)
  case atStart => exact ⟨0, by omega, rfl, by rw [part_start]; exact r12, r2, b2⟩
  case round =>
    clear r12 r2 b2 w1 w2
    obtain ⟨k, hk, rfl, rk, ro, bk⟩ := hrel
    by_cases hlt : k < 64
    · have hkz : k < zs.length := by rw [HZ.out]; exact hlt
      have hc := rk.cell (i := k) (by simp [part, turned]; omega)
      have hf := rk.frozen k
      rw [part_get t zs hkz] at hc
      have HS : Hid (Row (wr.setCell ⟨w.heap.size, k, none⟩ (.int .u8 (flip t (zs.getD k 0)))) w.heap.size 86 .u8 (part t zs (k + 1))) := Lib.hid (by rw [← part_set t zs hkz]; exact rk.set k (flip_wf _ _))
      unfold flip at HS
      have hlt' : (k : Int) < 64 := by omega
      have hk0 : (0 : Int) ≤ (k : Int) := by omega
      have hne : q ≠ w.heap.size := by have := HQ.out; omega
      generalize zs.getD k 0 = x at hc HS
      gi_wp2_with fail
      go_roundw
      case rel => exact ⟨k + 1, by omega, by go_num, HS.out, ro.other (by simpa using hne.symm) _, bk.setCell (by simp) _⟩
      case measure => simp [intOf]; omega
    · have hk64 : k = 64 := by omega
      subst hk64
      rw [part_end t zs (by rw [HZ.out]; omega)] at rk
      have hmi : (m : Int) ≤ 1048576 := by omega
      have hsl64 := fun W => run_slice_arr_all (P := Tryd.prog) 86 5 64 w.heap.size W Tryd.underlying86 (by kernel_rfl) (by omega)
      obtain ⟨i0, hi0, hz0, hs0, hb0⟩ := info_parts info_bytes
      gi_wp2_with (refine wpListIn_make_own _ rfl _ _ 85 rfl w.heap.size 34 i0 (.slice none 0 0) 1 Tryd.underlying85 hi0 hz0 hs0 .i64 .i64 _ (m + 1) rfl rfl (by omega) (by rw [hb0]; omega) (by unfold maxLen; omega) bk.size ?_; intro w3 hown3 hg3)
      obtain ⟨g, hg⟩ : ∃ g, wr.heap.size = g := ⟨_, rfl⟩
      have hqg : q < g := by rw [← hg]; exact ro.lt
      rw [hg] at hown3 ⊢
      have hgl := (hown3.lt g rfl).2
      obtain ⟨lb, hlb⟩ : ∃ lb, w3.heap.size = lb := ⟨_, rfl⟩
      have rk3 := rk.grown hg3 (by simp)
      have ro3 := ro.grown hg3 (by simp)
      have b3 : Below w.heap.size w w3 := bk.grown hg3 bk.size (by simp)
      rw [hlb] at hgl ⊢
      have HLB := Lib.hid hlb
      clear hg hlb hg3 rk ro bk hi0 hz0 hs0 hb0
      refine ⟨trivial, ?_⟩
      refine (callsIn_wide.2 (behind_any _ A 64 64 m c _)).mono ?_
      rintro e W5 ⟨rfl, hW5⟩
      rw [World.size_alloc, HLB.out]
      have hwq := HQ.out
      have z5 : W5.heap.size = lb + 3 := by rw [hW5]; simp [HLB.out]
      have k1 : W5.cell? ⟨lb + 1, 0, none⟩ = some (.slice (some ⟨w.heap.size, 0, none⟩) 64 64) := by rw [hW5, World.cell?_alloc_lt _ _ _ (by simp; have := HLB.out; omega), World.cell?_alloc_at _ _ _ _ (by simp; exact HLB.out.symm)]; rfl
      have k2 : W5.cell? ⟨lb + 2, 0, none⟩ = some (.slice A m c) := by rw [hW5, World.cell?_alloc_at _ _ _ _ (by simp; have := HLB.out; omega)]; rfl
      have k0 : W5.heap[lb]? = some (.cells #[.slice (some ⟨g, 0, none⟩) 0 (m + 1)] 85 (0, 0)) := by
        rw [hW5, Below.heap_alloc _ _ _ (by simp; have := HLB.out; omega), Below.heap_alloc _ _ _ (by simp; have := HLB.out; omega), ← HLB.out]
        exact heap_alloc_new w3 _
      have i5 : Inv w q g lb m (turned t zs) [] W5 := by
        rw [hW5] at k0 ⊢
        exact ⟨k0, ((hown3.alloc _).alloc _).alloc _, ((rk3.alloc _).alloc _).alloc _, ((ro3.alloc _).alloc _).alloc _, ((b3.alloc b3.size _).alloc (by simp; have := b3.size; omega) _).alloc (by simp; have := b3.size; omega) _⟩
      have b5 := i5.2.2.2.2
      have hSlt : ∀ b, b < B → ¬ (b = g ∨ b = lb) := fun b hb e => by omega
      have hit := fun n => behind_far n (lb + 1) (lb + 2) (fun b => b = g ∨ b = lb) (.slice (some ⟨w.heap.size, 0, none⟩) 64 64) A m c vs W5 k1 k2 (by omega) (by omega) rfl ht.one_cell (ValsN.of (h.below (b5.mono hB)) hSlt) (by omega)
      have far : ∀ B', lb < B' → Far B' (Inv w q g lb m (turned t zs)) := fun B' h => Inv.far w q g lb m _ (by omega) (by omega) (by omega) h (by omega)
      have Z5 := Lib.hid z5
      have hwg : w.heap.size < g := by omega
      have hwl : w.heap.size < lb := by omega
      have hgb : g ≠ lb := by omega
      clear hW5 k1 k2 k0 hown3 rk3 ro3 b3 z5 hwq
      gi_wp2_with fail
      refine wpIn_rangeFunc_far rfl (by omega) (gf := 69) (lb := #[.pointer (some ⟨lb + 1, 0, none⟩), .pointer (some ⟨lb + 1 + 1, 0, none⟩)]) rfl trivial (enters_of Tryd.func69 (by kernel_rfl) rfl)
        (hit _) (fun h k => h.trans k) (fun W l o o' hl ho hc _ => Only.put W l o o' ho hc) (Below.refl _ _) (fun _ => rfl)
        (Inv w q g lb m (turned t zs)) (far _ (by have := Z5.out; omega)) i5
        (fun x a' pre W => Inv w q g lb m (turned t zs) pre W ∧ a' = { tmps := #[.agg (arr .u8 zs), .int .u8 t, .slice A m c, .pointer (some ⟨w.heap.size, 0, none⟩), undef, undef, .pointer (some ⟨q, 0, none⟩), u7, .pointer (some ⟨lb, 0, none⟩), x, .int .i64 64, .bool false, u12, u13, u14, u15, u16, u17, u18, u19, .slice A m c, .int .i64 (m : Int), .int .i64 (1 + (m : Int)), .slice (some ⟨g, 0, none⟩) 0 (m + 1), .slice (some ⟨w.heap.size, 0, none⟩) 64 64, .slice A m c, .func (.func 69) #[] #[.pointer (some ⟨lb + 1, 0, none⟩), .pointer (some ⟨lb + 1 + 1, 0, none⟩)], x, undef, undef, undef, undef, undef, undef], defers := [] }) ?ib ?assign ?body ?done
      case ib =>
        rintro x a' pre W W' row ⟨hi, h3⟩ hgr hr
        exact ⟨far (lb + 1) (by omega) pre W W' row hi hgr (fun r e => by have := (hr r e).1; have := Z5.out; omega), h3⟩
      case assign =>
        intro l pre x W K hi hp hsz hK
        gi_wp2_with fail
        exact hK _ _ (KeepsOthers.refl _) (Only.refl _ _) ⟨hi, rfl⟩
      case body =>
        rintro l pre x a' W ⟨⟨i1, i2, i3, i4, ib⟩, rfl⟩ hp hsz
        have hx := List.IsPrefix.length_le hp
        have hpl : pre.length + 1 ≤ m + 1 := by simpa [h.1] using hx
        have hxm : x ∈ (Value.slice (some ⟨w.heap.size, 0, none⟩) 64 64) :: vs := hp.subset (by simp)
        obtain ⟨Ax, nx, cx, rfl⟩ : ∃ Ax nx cx, x = .slice Ax nx cx := by
          rcases List.mem_cons.1 hxm with rfl | hxm
          · exact ⟨_, _, _, rfl⟩
          · exact ht.slice hxm
        have hc := cell_of_one i1
        have hf := free_of_one i1
        have hlw : lb < W.heap.size := (Array.getElem?_eq_some_iff.1 i1).1
        obtain ⟨p, hpp⟩ : ∃ p, pre.length = p := ⟨_, rfl⟩
        rw [hpp] at i1 i2 hc hpl
        have HPP := Lib.hid hpp
        obtain ⟨i0, hi0, hz0, hs0, hb0⟩ := info_parts info_bytes
        have hcx : ∀ (j : Nat) (u : Value), [Value.slice Ax nx cx][j]? = some u → (W.alloc (.cells #[.slice Ax nx cx] 34)).cell? ((⟨W.heap.size, 0, none⟩ : Addr).add j) = some u := fun j u hu => by
          cases j with
          | zero =>
            simp at hu
            subst hu
            rw [show (Addr.mk W.heap.size 0 none).add 0 = ⟨W.heap.size, 0, none⟩ by simp [Addr.add], World.cell?_alloc_at #[.slice Ax nx cx] 34 _ 0 rfl]
            rfl
          | succ j => simp at hu
        have hx1' : ∀ u ∈ [Value.slice Ax nx cx], u.oneCell' = true := fun u hu => by rw [List.mem_singleton.1 hu]; rfl
        have HCX := Lib.hid hcx
        have HX1 := Lib.hid hx1'
        clear hx hxm hp hpp hcx hx1'
        simp only []
        gi_wp2_with (refine wpListIn_append_fits _ rfl _ _ 85 rfl w.heap.size 34 i0 1 Tryd.underlying85 hi0 hs0 g p (m + 1) pre rfl (i2.alloc (.cells #[.slice Ax nx cx] 34)) ⟨W.heap.size, 0, none⟩ 1 1 [.slice Ax nx cx] rfl rfl HCX.out HX1.out (by omega) ?_; intro w6 hown6 hg6; have l6 : w6.heap[lb]? = some (.cells #[.slice (some ⟨g, 0, none⟩) p (m + 1)] 85 (0, 0)) := ((hg6.block lb (by simp; omega) (by intro e; injection e with e; omega)).trans (Below.heap_alloc W _ lb hlw)).trans i1; have f6 := free_of_one l6; have c6 := cell_of_one l6)
        have hgW := i2.2
        obtain ⟨cur, hcur⟩ : ∃ cur, W.heap[g]? = some (.cells cur 34 (0, 0)) := by
          rcases i2.2 with ⟨e, _⟩ | ⟨g', cap, cur, e, _, hgg, _⟩
          · cases e
          · injection e with e1
            injection e1 with e1
            injection e1 with e1
            subst e1
            exact ⟨cur, hgg⟩
        have hgw : g < W.heap.size := (Array.getElem?_eq_some_iff.1 hcur).1
        have ga := World.grownBy_alloc W (.cells #[.slice Ax nx cx] 34) none
        have gs := grown_setCell w6 lb 0 (.slice (some ⟨g, 0, none⟩) (p + 1) (m + 1))
        have hs6 := hg6.size
        rw [World.size_alloc] at hs6
        refine ⟨((KeepsOthers.alloc _ _).trans (KeepsOthers.of_grownBy hg6 (fun j o e ho => ?_))).trans (KeepsOthers.of_grownBy gs (fun j o e ho => ?_)),
          ((Only.of_grown ga (fun r e => by cases e)).trans (Only.of_grown hg6 (fun r e => by cases e; exact .inl rfl))).trans (Only.of_grown gs (fun r e => by cases e; exact .inr rfl)), ?_, ?_, ?_, ?_, ?_⟩
        · cases e
          rw [Below.heap_alloc W _ g hgw, hcur] at ho
          cases ho
          rfl
        · cases e
          rw [l6] at ho
          cases ho
          rfl
        · rw [List.length_append, HPP.out]
          exact one_setCell l6
        · rw [List.length_append, HPP.out]
          exact hown6.kept gs (.inr (fun e => by have e : some g = some lb := e; injection e with e; omega))
        · exact ((i3.alloc _).grown hg6 (fun e => by injection e with e; omega)).grown gs (fun e => by injection e with e; omega)
        · exact ((i4.alloc _).grown hg6 (fun e => by injection e with e; omega)).grown gs (fun e => by injection e with e; omega)
        · exact ((ib.alloc ib.size _).grown hg6 (by have := ib.size; simp; omega) (fun r e => by cases e; omega)).grown gs (by have := ib.size; omega) (fun r e => by cases e; omega)
      case done =>
        intro D W hD ⟨i1, i2, i3, i4, ib⟩ hDl
        have hlen : (Value.slice (some ⟨w.heap.size, 0, none⟩) 64 64 :: vs).length = m + 1 := by rw [List.length_cons, h.1]
        rw [hlen] at i1 i2
        have hc := cell_of_one i1
        have tx := (Texts.one (i3.ints (n := 64) (by rw [turned_length, HZ.out]; omega)) (Nat.le_refl 64) (by simp [maxLen])).cons ((ht.below (ib.mono hB)).more (B' := W.heap.size) (by have := ib.size; omega))
        rw [List.take_of_length_le (by rw [turned_length, HZ.out]; omega)] at tx
        have vx := ownsRow_vals i2 tx.one_cell
        have HF := Lib.hid (show (turned t zs :: xss).flatten = turned t zs ++ xss.flatten from rfl)
        have HL := Lib.hid (show (turned t zs ++ xss.flatten).length ≤ 1099511627776 by rw [List.length_append, turned_length, HZ.out]; omega)
        have HBS := Lib.hid (show Bs (turned t zs ++ xss.flatten) from fun z hz => by
          rcases List.mem_append.1 hz with h1 | h1
          · exact turned_bytes _ _ z h1
          · exact hb z h1)
        have hDq : D ≠ q := by have := Z5.out; have := HQ.out; omega
        clear hlen i1 i2 i3
        gi_wp2_with fail
        refine ⟨trivial, ?_⟩
        refine (callsIn_wide.2 (sum_any _ _ _ _ _ _ _ vx tx (Nat.le_refl _) (by omega) (by rw [HF.out]; exact HL.out) (by rw [HF.out]; exact HBS.out) (hT0.below ib hT0.lt) (hT1.below ib hT1.lt))).mono ?_
        rw [HF.out]
        rintro e W7 ⟨rfl, hb7⟩
        have b7 := ib.trans (hb7.mono ib.size)
        have r7 := i4.below hb7 i4.lt
        have d7 := (hb7.block D (Array.getElem?_eq_some_iff.1 hDl).1).trans hDl
        have hs7 := b7.size
        clear vx tx ib i4 hDl hb7
        gi_wp2_with (refine wpListIn_store_RowTo rfl 22 _ _ rfl q rfl 22 .u8 _ _ rfl r7 32 info_32 (sha_length _) (by simp) (fun z hz => wf_of_byte (sha_bytes _ z hz)) ?_; intro w8 r8 g8 z8; have d8 := (g8.block D (Array.getElem?_eq_some_iff.1 d7).1 (by intro e; injection e with e; omega)).trans d7)
        refine ⟨by simp, .inl ⟨_, _, rfl, run_takeDeferred d8, ?_⟩⟩
        have r9 : Row (w8.putObj D (.deferred none)) q 22 .u8 (Sum.sha (turned t zs ++ xss.flatten)) := ⟨r8.1, (World.putObj_heap_other (fun e => hDq e.symm)).trans r8.2⟩
        refine ⟨.agg (arr .u8 (Sum.sha (turned t zs ++ xss.flatten))), results_Row rfl _ _ q _ _ _ rfl r9 32 5 Tryd.underlying22 info_32 (sha_length _), rfl, ?_⟩
        exact (b7.grown g8 hs7 (fun r e => by have := HQ.out; cases e; omega)).grown (grownBy_putObj' _ D _) (by have := g8.size; omega) (fun r e => by have := Z5.out; cases e; omega)
end Go.Proofs.YtoelgcdjhekafaaDoor.Mac
namespace Go.Proofs.YtoelgcdjhekafaaDoor.Mac
open Go.RowKit Go.Shelf Go.Proofs.YtoelgcdjhekafaaDoor.Mem Go.Proofs.YtoelgcdjhekafaaDoor.Help Go.Proofs.YtoelgcdjhekafaaDoor.Sum Go.Proofs.YtoelgcdjhekafaaDoor.Sha
set_option linter.unusedVariables false
attribute [local irreducible] wpList wpListIn

set_option maxRecDepth 100000 in
set_option maxHeartbeats 4000000 in
theorem tag_any (B B' : Nat) (A A' : Option Addr) (n c m c' : Nat) (zs : List Int) (vs : List Value) (xss : List (List Int)) (w : World) (hi : Ints w .u8 B A n zs) (hc : n ≤ c) (hc' : c ≤ maxLen) (hnn : n ≤ 1099511627776) (h : Vals w B' A' m vs) (ht : Texts w B' vs xss) (hB : B ≤ w.heap.size) (hB' : B' ≤ w.heap.size) (hm : m ≤ 1048576) (hn : xss.flatten.length ≤ 549755813888)
    (hT0 : Tab w 3 Sum.H0) (hT1 : Tab w 4 Sum.K) :
    Calls Tryd.prog 50 #[.slice A n c, .slice A' m c'] w fun e w' => e = .returned (.agg (arr .u8 (tag zs xss.flatten))) ∧ Below w.heap.size w w' := by
  have hzb : Bs zs := fun z hz => wf_u8 (hi.2.1 z hz)
  have HB := Lib.hid (blk_length zs)
  have HBB := Lib.hid (blk_bytes hzb)
  go_enter Tryd.func50, Tryd.ntmps50
  go_wp2_with (refine wpList_alloc_Row rfl 22 rfl .u8 32 zero_32 ?_; intro w0 r0 g0 z0)
  have b0 : Below w.heap.size w w0 := (Below.refl _ w).grown g0 (Nat.le_refl _) (by simp)
  have l0 := r0.lt
  refine (fitted_any B A n c zs _ (hi.below (b0.mono hB)) (by omega) hc hc' hnn (hT0.below b0 hT0.lt) (hT1.below b0 hT1.lt)).mono ?_
  rintro e w1 ⟨rfl, hb1⟩
  have b1 := b0.trans (hb1.mono b0.size)
  have r1 := r0.below hb1 l0
  have s1 := hb1.size
  have l1 := r1.lt
  clear hb1 r0 b0 g0 z0
  go_wp2_with (first
    | (refine wpList_alloc_Row (w := w1) rfl 86 rfl .u8 64 zero_64 ?_; intro w2 r2 g2 z2)
    | (refine wpList_store_RowTo (w := w2) rfl 86 _ _ rfl w1.heap.size rfl 86 .u8 _ (blk zs) rfl r2 64 info_64m HB.out (by simp) (fun z hz => wf_of_byte (HBB.out z hz)) ?_; intro w3 r3 g3 z3)
    | (refine wpList_load_Row rfl 86 _ rfl w1.heap.size rfl 86 .u8 _ r3 64 5 Tryd.underlying86 info_64m HB.out ?_))
  have b3 : Below w.heap.size w w3 := (b1.grown g2 b1.size (by simp)).grown g3 (by have := g2.size; have := b1.size; omega) (fun r e => by have := b1.size; cases e; omega)
  have r13 := (r1.grown g2 (by simp)).grown g3 (by intro e; injection e with e; omega)
  clear r1 r2 g2 g3 z2 z3 b1
  refine (keyed_any 54 (blk zs) B' A' m c' vs xss _ HB.out HBB.out (h.below (b3.mono hB')) (ht.below (b3.mono hB')) (by have := b3.size; omega) hm hn ht.bs (hT0.below b3 hT0.lt) (hT1.below b3 hT1.lt)).mono ?_
  rintro e w4 ⟨rfl, hb4⟩
  have b4 := b3.trans (hb4.mono b3.size)
  have q0 := r13.below hb4 r13.lt
  have q5 := r3.below hb4 r3.lt
  have l5 := r3.lt
  obtain ⟨msg, hmsg⟩ : ∃ msg, Sum.sha (turned 54 (blk zs) ++ xss.flatten) = msg := ⟨_, rfl⟩
  have hml : msg.length = 32 := by rw [← hmsg]; exact sha_length _
  have hmb : Bs msg := by rw [← hmsg]; exact sha_bytes _
  rw [hmsg]
  have HTG := Lib.hid (show tag zs xss.flatten = Sum.sha (turned 92 (blk zs) ++ msg) by unfold tag; rw [hmsg])
  have HML := Lib.hid hml
  have hs4 := hb4.size
  clear r13 r3 b3 hb4 hmsg hml
  go_wp2_with (first
    | (refine wpList_alloc_Row (w := w4) rfl 22 rfl .u8 32 zero_32 ?_; intro w5 r5 g5 z5)
    | (refine wpList_store_RowTo (w := w5) rfl 22 _ _ rfl w4.heap.size rfl 22 .u8 _ msg rfl r5 32 info_32 HML.out (by simp) (fun z hz => wf_of_byte (hmb z hz)) ?_; intro w6 r6 g6 z6))
  have b6 : Below w.heap.size w w6 := (b4.grown g5 b4.size (by simp)).grown g6 (by have := g5.size; have := b4.size; omega) (fun r e => by have := b4.size; cases e; omega)
  have p0 := (q0.grown g5 (by simp)).grown g6 (by intro e; injection e with e; omega)
  have p5 := (q5.grown g5 (by simp)).grown g6 (by intro e; injection e with e; omega)
  have l4 := r6.lt
  have l6 := p0.lt
  have l56 := p5.lt
  clear q0 q5 r5 g5 g6 z5 z6 b4 hs4
  refine wp_region_held (S := fun w' => Row w' w1.heap.size 86 .u8 (blk zs)) (by kernel_rfl) ?_
  refine Held.take 0 (some 12) rfl rfl (by kernel_rfl) (by kernel_rfl) (by kernel_rfl) (fun _ _ _ h => h) rfl (Held.y_load_Row (t := 86) (zs := blk zs) rfl rfl Tryd.underlying86 info_64m HB.out (fun w h => h)) p5 ?_
  simp only [Act.put, List.setIfInBounds_toArray, List.set_cons_zero, List.set_cons_succ]
  refine Held.take 1 (some 13) rfl rfl (by kernel_rfl) (by kernel_rfl) (by kernel_rfl) (fun _ _ _ h => h) rfl (Held.y_slice rfl (fun w => run_slice_arr_all (P := Tryd.prog) 22 5 32 w4.heap.size w Tryd.underlying22 (by kernel_rfl) (by omega))) p5 ?_
  simp only [Act.put, List.setIfInBounds_toArray, List.set_cons_zero, List.set_cons_succ]
  change wpAnyH _ _ _ _ _ _ _ _ w6.drew
  have b6d : Below w.heap.size w w6.drew := b6.drew
  have rD : Row w6.drew w4.heap.size 22 .u8 msg := r6
  have pA : Row w6.drew w.heap.size 22 .u8 (List.replicate 32 0) := p0
  have pB : Row w6.drew w1.heap.size 86 .u8 (blk zs) := p5
  refine Held.one 2 (by kernel_rfl) ?_
  refine Held.op_build 2 (some 14) 85 34 1 (.slice none 0 0) 24 [.slice (some ⟨w4.heap.size, 0, none⟩) 32 32] rfl rfl rfl rfl Tryd.underlying85 info_bytes (by simp [Act.eval]) (by simp [Value.cells]) (by simp [Value.oneCell']) rfl (by omega) (by omega) ?_
  intro p wA n1 hbA
  have bA := b6d.trans (hbA.mono b6d.size)
  have rA := rD.below hbA rD.lt
  have pA1 := pA.below hbA pA.lt
  have pB1 := pB.below hbA pB.lt
  have i6 := rA.ints (n := 32) (by rw [HML.out]; omega)
  rw [List.take_of_length_le (by rw [HML.out]; omega)] at i6
  have t1 := Texts.one i6 (Nat.le_refl 32) (by simp [maxLen])
  refine ⟨pB1, ?_⟩
  simp only [Act.put, List.setIfInBounds_toArray, List.set_cons_zero, List.set_cons_succ]
  refine Held.one 3 (by kernel_rfl) ?_
  refine Held.op_call 3 (some 15) 61 #[.agg (arr .u8 (blk zs)), .int .u8 92, .slice (some ⟨p, 0, none⟩) 1 1] rfl rfl rfl rfl (enters_of Tryd.func61 (by kernel_rfl) rfl) (by simp [Act.eval])
    (keyed_any 92 (blk zs) _ _ 1 1 _ [msg] _ HB.out HBB.out n1 t1 (Nat.le_refl _) (by omega) (by simp [HML.out]) (by simpa using hmb) (hT0.below bA hT0.lt) (hT1.below bA hT1.lt)) ?_
  rintro e w7 ⟨rfl, hb7⟩
  have p07 := pA1.below hb7 pA1.lt
  have pB7 := pB1.below hb7 pB1.lt
  refine ⟨_, rfl, pB7, ?_⟩
  simp only [Act.put, List.setIfInBounds_toArray, List.set_cons_zero, List.set_cons_succ]
  have hne : w1.heap.size ≠ w.heap.size := by omega
  refine Held.one 4 (by kernel_rfl) ?_
  refine Held.op_store_Row 4 none 22 w.heap.size 22 .u8 _ (Sum.sha (turned 92 (blk zs) ++ [msg].flatten)) rfl rfl rfl rfl rfl rfl p07 32 info_32 (sha_length _) (by simp) ⟨pB7.setRow_other (fun e => hne e.symm) _, ?_⟩
  simp only [Act.put]
  refine wpAnyH_done (by kernel_rfl) ?_ _
  have r8 := p07.setRow (zs := Sum.sha (turned 92 (blk zs) ++ [msg].flatten)) (fun z hz => wf_of_byte (sha_bytes _ z hz))
  have b7 := bA.trans (hb7.mono bA.size)
  have b8 : Below w.heap.size w (w7.setRow w.heap.size (arr .u8 (Sum.sha (turned 92 (blk zs) ++ [msg].flatten)))) := b7.grown (grown_setRow _ _ _) b7.size (fun r e => by cases e; exact Nat.le_refl _)
  generalize w7.setRow w.heap.size (arr .u8 (Sum.sha (turned 92 (blk zs) ++ [msg].flatten))) = w8 at r8 b8
  have em : [msg].flatten = msg := by simp
  rw [em] at r8 ⊢
  rw [← HTG.out] at r8
  have HTL := Lib.hid (tag_length zs xss.flatten)
  clear em p07 hb7 pA pB pA1 pB1 pB7 t1 n1 i6 bA rA rD
  go_wp2_with fail
  exact bodyPost_ret (results_Row rfl _ _ w.heap.size _ _ _ rfl r8 32 5 Tryd.underlying22 info_32 HTL.out) rfl ⟨rfl, b8⟩
end Go.Proofs.YtoelgcdjhekafaaDoor.Mac
namespace Go.Proofs.YtoelgcdjhekafaaDoor.Mac
open Go.RowKit Go.Proofs.YtoelgcdjhekafaaDoor.Mem Go.Proofs.YtoelgcdjhekafaaDoor.Help Go.Proofs.YtoelgcdjhekafaaDoor.Sum Go.Proofs.YtoelgcdjhekafaaDoor.Sha
set_option linter.unusedVariables false

theorem tag_built (w : World) (A : Option Addr) (n c : Nat) (key : List Int) (m cc : Nat) (vs : List Value) (xss : List (List Int)) (zs : List Int) (hk : Ints w .u8 w.heap.size A n key) (hc : n ≤ c) (hc' : c ≤ maxLen) (hn : n ≤ 1099511627776)
    (hv : vs.length = m) (hm : m ≤ 1000) (ht : Texts w w.heap.size vs xss) (hx : xss.flatten = zs) (hz : zs.length ≤ 549755813888) (hT0 : Tab w 3 Sum.H0) (hT1 : Tab w 4 Sum.K) :
    Calls Tryd.prog 50 #[.slice A n c, .slice (some ⟨w.heap.size, 0, none⟩) m cc] (w.alloc (.cells vs.toArray 34)) fun e w' => e = .returned (.agg (arr .u8 (tag key zs))) ∧ Below w.heap.size w w' := by
  subst hv
  subst hx
  have p1 := Vals.new w 34 vs ht.one_cell
  have hb1 : Below w.heap.size w (w.alloc (.cells vs.toArray 34)) := (Below.refl _ w).alloc (Nat.le_refl _) _
  have t1 := (ht.below hb1).more (B' := w.heap.size + 1) (by omega)
  refine (tag_any _ _ A _ n c _ cc key _ xss _ (hk.below hb1) hc hc' hn p1 t1 (by simp) (by simp) (by omega) hz (hT0.below hb1 hT0.lt) (hT1.below hb1 hT1.lt)).mono ?_
  rintro e w' ⟨rfl, hb⟩
  exact ⟨rfl, hb1.trans (hb.mono (by simp))⟩
theorem tag_one (w : World) (B B' : Nat) (A A' : Option Addr) (n c n' d cc : Nat) (key zs : List Int) (hk : Ints w .u8 B A n key) (hB : B ≤ w.heap.size) (hc : n ≤ c) (hc' : c ≤ maxLen) (hn : n ≤ 1099511627776) (h : Ints w .u8 B' A' n' zs) (hB' : B' ≤ w.heap.size) (hd : n' ≤ d) (hd' : d ≤ maxLen) (hn' : n' ≤ 549755813888)
    (hT0 : Tab w 3 Sum.H0) (hT1 : Tab w 4 Sum.K) :
    Calls Tryd.prog 50 #[.slice A n c, .slice (some ⟨w.heap.size, 0, none⟩) 1 cc] (w.alloc (.cells #[.slice A' n' d] 34)) fun e w' => e = .returned (.agg (arr .u8 (tag key zs))) ∧ Below w.heap.size w w' :=
  tag_built w A n c key 1 cc [.slice A' n' d] [zs] zs (hk.more hB) hc hc' hn rfl (by omega) (Texts.one (h.more hB') hd hd') (by simp) (by rw [h.1]; exact hn') hT0 hT1
theorem tag_two (w : World) (B B' B2 : Nat) (A A' A2 : Option Addr) (n c n' d n2 d2 cc : Nat) (key zs ys : List Int) (hk : Ints w .u8 B A n key) (hB : B ≤ w.heap.size) (hc : n ≤ c) (hc' : c ≤ maxLen) (hn : n ≤ 1099511627776) (h : Ints w .u8 B' A' n' zs) (hB' : B' ≤ w.heap.size) (hd : n' ≤ d) (hd' : d ≤ maxLen)
    (h2 : Ints w .u8 B2 A2 n2 ys) (hB2 : B2 ≤ w.heap.size) (hd2 : n2 ≤ d2) (hd2' : d2 ≤ maxLen) (hn' : n' + n2 ≤ 549755813888)
    (hT0 : Tab w 3 Sum.H0) (hT1 : Tab w 4 Sum.K) :
    Calls Tryd.prog 50 #[.slice A n c, .slice (some ⟨w.heap.size, 0, none⟩) 2 cc] (w.alloc (.cells #[.slice A' n' d, .slice A2 n2 d2] 34)) fun e w' => e = .returned (.agg (arr .u8 (tag key (zs ++ ys)))) ∧ Below w.heap.size w w' :=
  tag_built w A n c key 2 cc [.slice A' n' d, .slice A2 n2 d2] [zs, ys] (zs ++ ys) (hk.more hB) hc hc' hn rfl (by omega) ((Texts.one (h.more hB') hd hd').cons (Texts.one (h2.more hB2) hd2 hd2')) (by simp) (by rw [List.length_append, h.1, h2.1]; exact hn') hT0 hT1
end Go.Proofs.YtoelgcdjhekafaaDoor.Mac
namespace Go.Proofs.YtoelgcdjhekafaaDoor.Hkdf
open Go.RowKit Go.Shelf Go.Proofs.YtoelgcdjhekafaaDoor.Mem Go.Proofs.YtoelgcdjhekafaaDoor.Help Go.Proofs.YtoelgcdjhekafaaDoor.Sum Go.Proofs.YtoelgcdjhekafaaDoor.Sha Go.Proofs.YtoelgcdjhekafaaDoor.Mac Go.Proofs.YtoelgcdjhekafaaDoor.Range Go.Proofs.YtoelgcdjhekafaaDoor
set_option linter.unusedVariables false
attribute [local go_sem] Oper.semAt_some

/-- the pieces: each of the one ahead of it, of what is said, and of its number -/
def piece (key info : List Int) : Nat → List Int
  | 0 => []
  | i + 1 => tag key (piece key info i ++ (info ++ [(i : Int) + 1]))
/-- the first k pieces, one behind the other -/
def stream (key info : List Int) (k : Nat) : List Int := (List.range k).flatMap fun i => piece key info (i + 1)
/-- the first n bytes -/
def out (key info : List Int) (n : Nat) : List Int := (stream key info 255).take n

theorem piece_length (key info : List Int) (i : Nat) : (piece key info (i + 1)).length = 32 := tag_length _ _
theorem piece_bytes (key info : List Int) : ∀ i, Bs (piece key info i)
  | 0 => fun z hz => by cases hz
  | i + 1 => tag_bytes _ _
theorem piece_wf (key info : List Int) (i : Nat) : ∀ z ∈ piece key info i, (Lit.int .u8 z).wf = true := fun z hz => wf_of_byte (piece_bytes key info i z hz)
theorem piece_le (key info : List Int) : ∀ i, (piece key info i).length ≤ 32
  | 0 => by simp [piece]
  | i + 1 => by rw [piece_length]; omega
theorem stream_succ (key info : List Int) (k : Nat) : stream key info (k + 1) = stream key info k ++ piece key info (k + 1) := by simp [stream, List.range_succ, List.flatMap_append]
theorem stream_length (key info : List Int) : ∀ k, (stream key info k).length = 32 * k
  | 0 => rfl
  | k + 1 => by rw [stream_succ, List.length_append, stream_length key info k, piece_length]; omega
theorem stream_bytes (key info : List Int) (k : Nat) : Bs (stream key info k) := fun z hz => by
  obtain ⟨i, _, h⟩ := List.mem_flatMap.1 hz
  exact piece_bytes key info (i + 1) z h
theorem stream_more (key info : List Int) (k : Nat) : ∀ d, ∃ r, stream key info (k + d) = stream key info k ++ r
  | 0 => ⟨[], by simp⟩
  | d + 1 => by
    obtain ⟨r, h⟩ := stream_more key info k d
    exact ⟨r ++ piece key info (k + d + 1), by rw [← Nat.add_assoc, stream_succ, h, List.append_assoc]⟩
theorem out_length (key info : List Int) (n : Nat) (h : n ≤ 8160) : (out key info n).length = n := by rw [out, List.length_take, stream_length]; omega
theorem out_bytes (key info : List Int) (n : Nat) : Bs (out key info n) := fun z hz => stream_bytes key info 255 z (List.mem_of_mem_take hz)
theorem out_wf (key info : List Int) (n : Nat) : ∀ z ∈ out key info n, (Lit.int .u8 z).wf = true := fun z hz => wf_of_byte (out_bytes key info n z hz)
theorem out_zero (key info : List Int) : out key info 0 = [] := by simp [out]
theorem out_whole (key info : List Int) (k : Nat) (hk : k ≤ 255) : out key info (32 * k) = stream key info k := by
  obtain ⟨r, h⟩ := stream_more key info k (255 - k)
  rw [show k + (255 - k) = 255 by omega] at h
  rw [out, h, List.take_left' (stream_length _ _ _)]
theorem out_step (key info : List Int) (k j : Nat) (hk : k < 255) (hj : j ≤ 32) : out key info (32 * k) ++ (piece key info (k + 1)).take j = out key info (32 * k + j) := by
  obtain ⟨r, h⟩ := stream_more key info (k + 1) (255 - (k + 1))
  rw [show k + 1 + (255 - (k + 1)) = 255 by omega, stream_succ key info k, List.append_assoc] at h
  have hl := stream_length key info k
  have hp := piece_length key info k
  generalize piece key info (k + 1) = p at h hp ⊢
  rw [out_whole key info k (by omega), out, h]
  generalize stream key info k = s at hl ⊢
  rw [List.take_append, hl, List.take_of_length_le (l := s) (by omega), show 32 * k + j - 32 * k = j by omega, List.take_append_of_le_length (by omega)]

theorem out_take (key info : List Int) (m n : Nat) (h : m ≤ n) : (out key info n).take m = out key info m := by rw [out, out, List.take_take, Nat.min_eq_left h]
theorem out_one (key info : List Int) : out key info 32 = tag key (info ++ [1]) := by
  have := out_whole key info 1 (by omega)
  rw [show 32 * 1 = 32 from rfl] at this
  rw [this]
  simp [stream, piece]
attribute [irreducible] out stream

theorem follow_any (key : List Int) (hkb : ∀ z ∈ key, (Lit.int .u8 z).wf = true) (A : Option Addr) (m c : Nat) (w : World) :
    Calls Tryd.prog 49 #[.agg (arr .u8 key), .slice A m c] w fun e w' => e = .returned (.func (.func 59) #[] #[.pointer (some ⟨w.heap.size, 0, none⟩), .pointer (some ⟨w.heap.size + 1, 0, none⟩)]) ∧
      Row w' w.heap.size 22 .u8 key ∧ w'.cell? ⟨w.heap.size + 1, 0, none⟩ = some (.slice A m c) ∧ Below w.heap.size w w' ∧ Hid (w'.heap.size = w.heap.size + 2) := by
  go_enter Tryd.func49, Tryd.ntmps49
  go_wp2_with (refine wpList_box_Row rfl 22 _ rfl .u8 key rfl hkb ?_; intro w1 r1 g1 z1)
  obtain ⟨q, hq⟩ : ∃ q, w1.heap.size = q := ⟨_, rfl⟩
  have hqw := z1.out
  rw [hq] at hqw ⊢
  have b1 : Below w.heap.size w w1 := (Below.refl _ w).grown g1 (Nat.le_refl _) (by simp)
  go_ret
  refine ⟨by rw [← hqw]; rfl, r1.alloc _, ?_, b1.alloc b1.size _, Lib.hid (by simp; omega)⟩
  rw [← hqw, World.cell?_alloc_at _ _ _ _ hq.symm]
  rfl

/-- numbers at a block that is none of S, as numbers below the heap's end -/
theorem _root_.Go.Proofs.YtoelgcdjhekafaaDoor.Mem.IntsN.ints {S : Nat → Prop} {w : World} {k : IntKind} {A : Option Addr} {n : Nat} {zs : List Int} (h : IntsN w k S A n zs) : Ints w k w.heap.size A n zs :=
  ⟨h.1, h.2.1, fun hn => by
    obtain ⟨b, off, e, _, hc⟩ := h.2.2 hn
    exact ⟨b, off, e, by have := World.block_lt_of_cell? w _ (hc 0 hn); simpa using this, hc⟩⟩
theorem _root_.Go.Proofs.YtoelgcdjhekafaaDoor.Mem.IntsN.below {S : Nat → Prop} {w w' : World} {k : IntKind} {A : Option Addr} {n : Nat} {zs : List Int} (h : IntsN w k S A n zs) (hb : Below w.heap.size w w') : IntsN w' k S A n zs :=
  ⟨h.1, h.2.1, fun hn => by
    obtain ⟨b, off, e, hS, hc⟩ := h.2.2 hn
    exact ⟨b, off, e, hS, fun i hi => (hb.cell (p := ⟨b, off + i, none⟩) (World.block_lt_of_cell? w _ (hc i hi))).trans (hc i hi)⟩⟩
theorem nextI {S : Nat → Prop} {w : World} {g : Nat} {t : TypeId} {key info : List Int} {k : Nat} (h : Row w g t .u8 (piece key info (k + 1))) (hg : ¬ S g) : IntsN w .u8 S (some ⟨g, 0, none⟩) 32 (piece key info (k + 1)) := by
  have := IntsN.row h hg
  rwa [piece_length] at this

set_option maxRecDepth 100000 in
set_option maxHeartbeats 8000000 in
theorem follow_stop (n xk xi : Nat) (S : Nat → Prop) (key info : List Int) (A : Option Addr) (m c : Nat) (w : World) (h1 : Row w xk 22 .u8 key) (hk : key.length = 32) (h2 : w.cell? ⟨xi, 0, none⟩ = some (.slice A m c)) (hS1 : ¬ S xk) (hS2 : ¬ S xi)
    (hi : IntsN w .u8 S A m info) (hmc : m ≤ c) (hcm : c ≤ maxLen) (hm : m ≤ 274877906944) (hSlt : ∀ b, S b → b < w.heap.size) (ht0 : Tab w 3 Sum.H0) (ht1 : Tab w 4 Sum.K) (hg0 : ¬ S 3) (hg1 : ¬ S 4) :
    SeqStop Fence.wide n Tryd.prog 59 #[.pointer (some ⟨xk, 0, none⟩), .pointer (some ⟨xi, 0, none⟩)] (fun x => #[.agg (arr .u8 x)]) (Only S) (fun k => if k < 255 then some (piece key info (k + 1)) else none) w := by
  intro l J Jx N W hW hJ hJx hN hY h0
  have k1 := h1.below hW h1.lt
  have k2 := (hW.cell (p := ⟨xi, 0, none⟩) (World.block_lt_of_cell? w _ h2)).trans h2
  have kv := hi.below hW
  have u0 := ht0.below hW ht0.lt
  have u1 := ht1.below hW ht1.lt
  have hsz := hW.size
  have hSlt : ∀ b, S b → b < W.heap.size := fun b h => by have := hSlt b h; omega
  have HL := Lib.hid hi.1
  have HK := Lib.hid hk
  clear h1 h2 hi ht0 ht1 hW hk
  refine callsIn_of_wp Tryd.func59 rfl trivial ?_ rfl
  simp only [Tryd.ntmps59, List.size_toArray, List.length_cons, List.length_nil, Nat.reduceAdd, Nat.reduceSub, Array.replicate_succ, Array.replicate_zero, List.push_toArray, List.append_toArray, List.nil_append, List.cons_append]
  gi_wp2_with fail
  gi_loopw [4, 7] (fun v i wr => ∃ (k : Nat) (A4 : Option Addr) (n4 c4 : Nat), k ≤ 255 ∧ i = .int .i64 k ∧ v = .slice A4 n4 c4 ∧ n4 ≤ c4 ∧ c4 ≤ maxLen ∧ n4 ≤ 32 ∧ IntsN wr .u8 S A4 n4 (piece key info k) ∧ J k wr ∧ Only S W wr) (fun _ i _ => 255 - (intOf i).toNat)
  case atStart => exact ⟨0, none, 0, 0, by omega, rfl, rfl, by omega, by simp [maxLen], by omega, ⟨rfl, by simp [piece], fun h => absurd h (by omega)⟩, h0, Only.refl _ _⟩
  case round =>
    obtain ⟨k, A4, n4, c4, hk, rfl, rfl, h4, h4m, hn4, hi4, Jk, ok⟩ := hrel
    by_cases hlt255 : k < 255
    · have q1 := ok.row hS1 k1
      have q2 := ok.cell (p := ⟨xi, 0, none⟩) hS2 k2
      have qi := (kv.only ok).ints
      have kq := q1.ints (n := 32) (by rw [HK.out]; omega)
      rw [List.take_of_length_le (by rw [HK.out]; omega)] at kq
      have i4 := hi4.ints
      have hT0 := u0.only ok hg0
      have hT1 := u1.only ok hg1
      have lb2 : xi < wr.heap.size := by have := World.block_lt_of_cell? wr _ q2; simpa using this
      have hsw := ok.size
      have HX := Lib.hid (show tag key [piece key info k, info, [(k : Int) + 1]].flatten = piece key info (k + 1) by simp [piece])
      have HLEN := Lib.hid (show [piece key info k, info, [(k : Int) + 1]].flatten.length ≤ 549755813888 by simp [HL.out]; have := piece_le key info k; omega)
      have hlt' : (k : Int) < 255 := by omega
      have hk0 : (0 : Int) ≤ (k : Int) := by omega
      have hw4 : IntKind.i64.wrap ((k : Int) + 1) = (k : Int) + 1 := by simp [IntKind.wrap, IntKind.bits, IntKind.signed]; omega
      have hw5 : IntKind.u8.wrap ((k : Int) + 1) = (k : Int) + 1 := by simp [IntKind.wrap, IntKind.bits, IntKind.signed]; omega
      have hw6 : (Lit.int .u8 ((k : Int) + 1)).wf = true := wf_of_byte (by omega)
      gi_wp2_with fail
      refine Held.wpIn_region_heldR (r := none) (S := fun W => Below wr.heap.size wr W) rfl (by kernel_rfl) (by kernel_rfl) (fun a w h => by obtain ⟨⟨v, e⟩, _⟩ := h; cases e) ?_
      change wpAnyH _ _ _ _ _ _ _ _ wr.drew
      have c0_0 := (Below.refl wr.heap.size wr).drew
      refine Held.take (v := .slice (some ⟨xk, 0, none⟩) 32 32) 0 (some 10) rfl rfl (by kernel_rfl) (by kernel_rfl) (by kernel_rfl) (fun _ _ _ h => h) rfl (Held.y_slice rfl (fun W => run_slice_arr_all (P := Tryd.prog) 22 5 32 xk W Tryd.underlying22 (by kernel_rfl) (by omega))) c0_0 ?_
      simp only [Act.put, List.setIfInBounds_toArray, List.set_cons_zero, List.set_cons_succ]
      refine Held.take (v := .slice A4 n4 c4) 1 (some 11) rfl rfl (by kernel_rfl) (by kernel_rfl) (by kernel_rfl) (fun _ _ _ h => h) rfl (Held.y_move rfl rfl) c0_0 ?_
      simp only [Act.put, List.setIfInBounds_toArray, List.set_cons_zero, List.set_cons_succ]
      refine Held.take (v := .slice A m c) 2 (some 12) rfl rfl (by kernel_rfl) (by kernel_rfl) (by kernel_rfl) (fun _ _ _ h => h) rfl (Held.y_load rfl rfl (by kernel_rfl) (fun W h => (h.cell (p := ⟨xi, 0, none⟩) lb2).trans q2)) c0_0 ?_
      simp only [Act.put, List.setIfInBounds_toArray, List.set_cons_zero, List.set_cons_succ]
      refine Held.take (v := .int .i64 (k : Int)) 3 (some 13) rfl rfl (by kernel_rfl) (by kernel_rfl) (by kernel_rfl) (fun _ _ _ h => h) rfl (Held.y_move rfl rfl) c0_0 ?_
      simp only [Act.put, List.setIfInBounds_toArray, List.set_cons_zero, List.set_cons_succ]
      refine Held.take (v := .int .i64 ((k : Int) + 1)) 4 (some 14) rfl rfl (by kernel_rfl) (by kernel_rfl) (by kernel_rfl) (fun _ _ _ h => h) rfl (Held.y_int rfl rfl rfl (Held.run_add 3 .i64 hw4)) c0_0 ?_
      simp only [Act.put, List.setIfInBounds_toArray, List.set_cons_zero, List.set_cons_succ]
      refine Held.take (v := .int .u8 ((k : Int) + 1)) 5 (some 15) rfl rfl (by kernel_rfl) (by kernel_rfl) (by kernel_rfl) (fun _ _ _ h => h) rfl (Held.y_convert rfl rfl (by kernel_rfl) Tryd.underlying5 hw5) c0_0 ?_
      simp only [Act.put, List.setIfInBounds_toArray, List.set_cons_zero, List.set_cons_succ]
      refine Held.two 6 9 (by kernel_rfl) ?_ ?_
      · refine Held.op_build 6 (some 16) 34 5 1 (.int .u8 0) 1 [.int .u8 ((k : Int) + 1)] rfl rfl rfl rfl Tryd.underlying34 info_u8 (by simp [Act.eval]) (by simp [Value.cells]) (by simp [Value.oneCell']) rfl (by omega) (by omega) ?_
        intro p6 w1 v6 b1
        have c0_1 := c0_0.trans (b1.mono c0_0.size)
        have c1_1 := Below.refl w1.heap.size w1
        refine ⟨c0_1, ?_⟩
        simp only [Act.put, List.setIfInBounds_toArray, List.set_cons_zero, List.set_cons_succ]
        refine Held.two 7 9 (by kernel_rfl) ?_ ?_
        · refine Held.op_build 7 (some 17) 85 34 3 (.slice none 0 0) 24 [.slice A4 n4 c4, .slice A m c, .slice (some ⟨p6, 0, none⟩) 1 1] rfl rfl rfl rfl Tryd.underlying85 info_bytes (by simp [Act.eval]) (by simp [Value.cells]) (by simp [Value.oneCell']) rfl (by omega) (by omega) ?_
          intro p7 w2 v7 b2
          have c0_2 := c0_1.trans (b2.mono c0_1.size)
          have c1_2 := b2
          have c2_2 := Below.refl w2.heap.size w2
          have T7 := (Texts.one ((i4.below c0_2).more c0_2.size) h4 h4m).cons ((Texts.one ((qi.below c0_2).more c0_2.size) hmc hcm).cons (Texts.one (((Held.ints_of_vals (zs := [(k : Int) + 1]) v6 (by simpa using hw6)).below c1_2).more c1_2.size) (Nat.le_refl 1) (by simp [maxLen])))
          refine ⟨c0_2, ?_⟩
          simp only [Act.put, List.setIfInBounds_toArray, List.set_cons_zero, List.set_cons_succ]
          refine Held.two 8 9 (by kernel_rfl) ?_ ?_
          · refine Held.op_call 8 (some 18) 50 #[.slice (some ⟨xk, 0, none⟩) 32 32, .slice (some ⟨p7, 0, none⟩) 3 3] rfl rfl rfl rfl (enters_of Tryd.func50 (by kernel_rfl) rfl) (by simp [Act.eval])
              (tag_any _ _ _ _ 32 32 3 3 key _ [piece key info k, info, [(k : Int) + 1]] _ (kq.below c0_2) (Nat.le_refl 32) (by simp [maxLen]) (by omega) (v7.below c2_2) (T7.below c2_2) c0_2.size c2_2.size (by omega) HLEN.out (hT0.below c0_2 hT0.lt) (hT1.below c0_2 hT1.lt)) ?_
            rw [HX.out]
            rintro e w3 ⟨rfl, b3⟩
            have c0_3 := c0_2.trans (b3.mono c0_2.size)
            have c1_3 := c1_2.trans (b3.mono c1_2.size)
            have c2_3 := b3
            refine ⟨_, rfl, c0_3, ?_⟩
            simp only [Act.put, List.setIfInBounds_toArray, List.set_cons_zero, List.set_cons_succ]
            refine Held.one 9 (by kernel_rfl) ?_
            refine Held.op_alloc_Row 9 (some 6) 22 .u8 32 rfl rfl rfl rfl zero_32 ?_
            intro p9 w4 r9 b4 h9
            have c0_4 := c0_3.trans (b4.mono c0_3.size)
            have c1_4 := c1_3.trans (b4.mono c1_3.size)
            have c2_4 := c2_3.trans (b4.mono c2_3.size)
            have c4_4 := Below.refl w4.heap.size w4
            have q9 := Nat.le_trans c0_3.size h9.out
            refine ⟨c0_4, ?_⟩
            simp only [Act.put, List.setIfInBounds_toArray, List.set_cons_zero, List.set_cons_succ]
            refine Held.one 10 (by kernel_rfl) ?_
            refine Held.op_store_RowL 10 none 22 p9 22 .u8 _ (piece key info (k + 1)) rfl rfl rfl rfl rfl rfl (r9.below c4_4 r9.lt) 32 info_32 (piece_length _ _ _) (by simp) (piece_wf _ _ _) ?_
            intro w5 r10 g10
            have c0_5 := c0_4.grown g10 c0_4.size (fun r e => by have := h9.out; have := c0_3.size; cases e; omega)
            refine ⟨c0_5, ?_⟩
            simp only [Act.put]
            refine wpAnyH_done (by kernel_rfl) ?_ _
            have J9 := hJ k wr w5 none Jk (grown_of_below c0_5 none) (fun r e => by cases e)
            have o9 : Only S wr w5 := Only.of_below c0_5
            obtain ⟨fn, tmps, assign, body, hy, hR⟩ := hY k (piece key info (k + 1)) w5 J9 (by simp [hlt255])
            have r9' := r10
            gi_wp2_with (refine wpListIn_load_Row rfl 22 _ rfl p9 rfl 22 .u8 _ r10 32 5 Tryd.underlying22 info_32 (piece_length _ _ _) ?_)
            refine ⟨fun h => (by cases h), ?_⟩
            refine hR.mono ?_
            rintro e W4 (⟨rfl, J4, o4⟩ | ⟨rfl, Jx4⟩)
            · have hp9 : ¬ S p9 := fun e => by have := hSlt p9 e; omega
              have r4 := o4.row hp9 r10
              gi_wp2_with fail
              go_roundw
              case rel => exact ⟨k + 1, _, 32, 32, by omega, by go_num, rfl, by omega, by simp [maxLen], by omega, nextI r4 hp9, J4, (ok.trans o9).trans o4⟩
              case measure => simp [intOf]; omega
            · gi_wp2_with fail
              exact bodyPost_ret (results_none rfl _ _ _) rfl ⟨⟨_, rfl⟩, .inr ⟨_, Jx4⟩⟩
          · refine Held.op_alloc_Row 9 (some 6) 22 .u8 32 rfl rfl rfl rfl zero_32 ?_
            intro p9 w3 r9 b3 h9
            have c0_3 := c0_2.trans (b3.mono c0_2.size)
            have c1_3 := c1_2.trans (b3.mono c1_2.size)
            have c2_3 := b3
            have c3_3 := Below.refl w3.heap.size w3
            have q9 := Nat.le_trans c0_2.size h9.out
            refine ⟨c0_3, ?_⟩
            simp only [Act.put, List.setIfInBounds_toArray, List.set_cons_zero, List.set_cons_succ]
            refine Held.one 8 (by kernel_rfl) ?_
            refine Held.op_call 8 (some 18) 50 #[.slice (some ⟨xk, 0, none⟩) 32 32, .slice (some ⟨p7, 0, none⟩) 3 3] rfl rfl rfl rfl (enters_of Tryd.func50 (by kernel_rfl) rfl) (by simp [Act.eval])
              (tag_any _ _ _ _ 32 32 3 3 key _ [piece key info k, info, [(k : Int) + 1]] _ (kq.below c0_3) (Nat.le_refl 32) (by simp [maxLen]) (by omega) (v7.below c2_3) (T7.below c2_3) c0_3.size c2_3.size (by omega) HLEN.out (hT0.below c0_3 hT0.lt) (hT1.below c0_3 hT1.lt)) ?_
            rw [HX.out]
            rintro e w4 ⟨rfl, b4⟩
            have c0_4 := c0_3.trans (b4.mono c0_3.size)
            have c1_4 := c1_3.trans (b4.mono c1_3.size)
            have c2_4 := c2_3.trans (b4.mono c2_3.size)
            have c3_4 := b4
            refine ⟨_, rfl, c0_4, ?_⟩
            simp only [Act.put, List.setIfInBounds_toArray, List.set_cons_zero, List.set_cons_succ]
            refine Held.one 10 (by kernel_rfl) ?_
            refine Held.op_store_RowL 10 none 22 p9 22 .u8 _ (piece key info (k + 1)) rfl rfl rfl rfl rfl rfl (r9.below c3_4 r9.lt) 32 info_32 (piece_length _ _ _) (by simp) (piece_wf _ _ _) ?_
            intro w5 r10 g10
            have c0_5 := c0_4.grown g10 c0_4.size (fun r e => by have := h9.out; have := c0_2.size; cases e; omega)
            refine ⟨c0_5, ?_⟩
            simp only [Act.put]
            refine wpAnyH_done (by kernel_rfl) ?_ _
            have J9 := hJ k wr w5 none Jk (grown_of_below c0_5 none) (fun r e => by cases e)
            have o9 : Only S wr w5 := Only.of_below c0_5
            obtain ⟨fn, tmps, assign, body, hy, hR⟩ := hY k (piece key info (k + 1)) w5 J9 (by simp [hlt255])
            have r9' := r10
            gi_wp2_with (refine wpListIn_load_Row rfl 22 _ rfl p9 rfl 22 .u8 _ r10 32 5 Tryd.underlying22 info_32 (piece_length _ _ _) ?_)
            refine ⟨fun h => (by cases h), ?_⟩
            refine hR.mono ?_
            rintro e W4 (⟨rfl, J4, o4⟩ | ⟨rfl, Jx4⟩)
            · have hp9 : ¬ S p9 := fun e => by have := hSlt p9 e; omega
              have r4 := o4.row hp9 r10
              gi_wp2_with fail
              go_roundw
              case rel => exact ⟨k + 1, _, 32, 32, by omega, by go_num, rfl, by omega, by simp [maxLen], by omega, nextI r4 hp9, J4, (ok.trans o9).trans o4⟩
              case measure => simp [intOf]; omega
            · gi_wp2_with fail
              exact bodyPost_ret (results_none rfl _ _ _) rfl ⟨⟨_, rfl⟩, .inr ⟨_, Jx4⟩⟩
        · refine Held.op_alloc_Row 9 (some 6) 22 .u8 32 rfl rfl rfl rfl zero_32 ?_
          intro p9 w2 r9 b2 h9
          have c0_2 := c0_1.trans (b2.mono c0_1.size)
          have c1_2 := b2
          have c2_2 := Below.refl w2.heap.size w2
          have q9 := Nat.le_trans c0_1.size h9.out
          refine ⟨c0_2, ?_⟩
          simp only [Act.put, List.setIfInBounds_toArray, List.set_cons_zero, List.set_cons_succ]
          refine Held.one 7 (by kernel_rfl) ?_
          refine Held.op_build 7 (some 17) 85 34 3 (.slice none 0 0) 24 [.slice A4 n4 c4, .slice A m c, .slice (some ⟨p6, 0, none⟩) 1 1] rfl rfl rfl rfl Tryd.underlying85 info_bytes (by simp [Act.eval]) (by simp [Value.cells]) (by simp [Value.oneCell']) rfl (by omega) (by omega) ?_
          intro p7 w3 v7 b3
          have c0_3 := c0_2.trans (b3.mono c0_2.size)
          have c1_3 := c1_2.trans (b3.mono c1_2.size)
          have c2_3 := b3
          have c3_3 := Below.refl w3.heap.size w3
          have T7 := (Texts.one ((i4.below c0_3).more c0_3.size) h4 h4m).cons ((Texts.one ((qi.below c0_3).more c0_3.size) hmc hcm).cons (Texts.one (((Held.ints_of_vals (zs := [(k : Int) + 1]) v6 (by simpa using hw6)).below c1_3).more c1_3.size) (Nat.le_refl 1) (by simp [maxLen])))
          refine ⟨c0_3, ?_⟩
          simp only [Act.put, List.setIfInBounds_toArray, List.set_cons_zero, List.set_cons_succ]
          refine Held.one 8 (by kernel_rfl) ?_
          refine Held.op_call 8 (some 18) 50 #[.slice (some ⟨xk, 0, none⟩) 32 32, .slice (some ⟨p7, 0, none⟩) 3 3] rfl rfl rfl rfl (enters_of Tryd.func50 (by kernel_rfl) rfl) (by simp [Act.eval])
            (tag_any _ _ _ _ 32 32 3 3 key _ [piece key info k, info, [(k : Int) + 1]] _ (kq.below c0_3) (Nat.le_refl 32) (by simp [maxLen]) (by omega) (v7.below c3_3) (T7.below c3_3) c0_3.size c3_3.size (by omega) HLEN.out (hT0.below c0_3 hT0.lt) (hT1.below c0_3 hT1.lt)) ?_
          rw [HX.out]
          rintro e w4 ⟨rfl, b4⟩
          have c0_4 := c0_3.trans (b4.mono c0_3.size)
          have c1_4 := c1_3.trans (b4.mono c1_3.size)
          have c2_4 := c2_3.trans (b4.mono c2_3.size)
          have c3_4 := b4
          refine ⟨_, rfl, c0_4, ?_⟩
          simp only [Act.put, List.setIfInBounds_toArray, List.set_cons_zero, List.set_cons_succ]
          refine Held.one 10 (by kernel_rfl) ?_
          refine Held.op_store_RowL 10 none 22 p9 22 .u8 _ (piece key info (k + 1)) rfl rfl rfl rfl rfl rfl (r9.below c2_4 r9.lt) 32 info_32 (piece_length _ _ _) (by simp) (piece_wf _ _ _) ?_
          intro w5 r10 g10
          have c0_5 := c0_4.grown g10 c0_4.size (fun r e => by have := h9.out; have := c0_1.size; cases e; omega)
          refine ⟨c0_5, ?_⟩
          simp only [Act.put]
          refine wpAnyH_done (by kernel_rfl) ?_ _
          have J9 := hJ k wr w5 none Jk (grown_of_below c0_5 none) (fun r e => by cases e)
          have o9 : Only S wr w5 := Only.of_below c0_5
          obtain ⟨fn, tmps, assign, body, hy, hR⟩ := hY k (piece key info (k + 1)) w5 J9 (by simp [hlt255])
          have r9' := r10
          gi_wp2_with (refine wpListIn_load_Row rfl 22 _ rfl p9 rfl 22 .u8 _ r10 32 5 Tryd.underlying22 info_32 (piece_length _ _ _) ?_)
          refine ⟨fun h => (by cases h), ?_⟩
          refine hR.mono ?_
          rintro e W4 (⟨rfl, J4, o4⟩ | ⟨rfl, Jx4⟩)
          · have hp9 : ¬ S p9 := fun e => by have := hSlt p9 e; omega
            have r4 := o4.row hp9 r10
            gi_wp2_with fail
            go_roundw
            case rel => exact ⟨k + 1, _, 32, 32, by omega, by go_num, rfl, by omega, by simp [maxLen], by omega, nextI r4 hp9, J4, (ok.trans o9).trans o4⟩
            case measure => simp [intOf]; omega
          · gi_wp2_with fail
            exact bodyPost_ret (results_none rfl _ _ _) rfl ⟨⟨_, rfl⟩, .inr ⟨_, Jx4⟩⟩
      · refine Held.op_alloc_Row 9 (some 6) 22 .u8 32 rfl rfl rfl rfl zero_32 ?_
        intro p9 w1 r9 b1 h9
        have c0_1 := c0_0.trans (b1.mono c0_0.size)
        have c1_1 := Below.refl w1.heap.size w1
        have q9 := Nat.le_trans c0_0.size h9.out
        refine ⟨c0_1, ?_⟩
        simp only [Act.put, List.setIfInBounds_toArray, List.set_cons_zero, List.set_cons_succ]
        refine Held.one 6 (by kernel_rfl) ?_
        refine Held.op_build 6 (some 16) 34 5 1 (.int .u8 0) 1 [.int .u8 ((k : Int) + 1)] rfl rfl rfl rfl Tryd.underlying34 info_u8 (by simp [Act.eval]) (by simp [Value.cells]) (by simp [Value.oneCell']) rfl (by omega) (by omega) ?_
        intro p6 w2 v6 b2
        have c0_2 := c0_1.trans (b2.mono c0_1.size)
        have c1_2 := b2
        have c2_2 := Below.refl w2.heap.size w2
        refine ⟨c0_2, ?_⟩
        simp only [Act.put, List.setIfInBounds_toArray, List.set_cons_zero, List.set_cons_succ]
        refine Held.one 7 (by kernel_rfl) ?_
        refine Held.op_build 7 (some 17) 85 34 3 (.slice none 0 0) 24 [.slice A4 n4 c4, .slice A m c, .slice (some ⟨p6, 0, none⟩) 1 1] rfl rfl rfl rfl Tryd.underlying85 info_bytes (by simp [Act.eval]) (by simp [Value.cells]) (by simp [Value.oneCell']) rfl (by omega) (by omega) ?_
        intro p7 w3 v7 b3
        have c0_3 := c0_2.trans (b3.mono c0_2.size)
        have c1_3 := c1_2.trans (b3.mono c1_2.size)
        have c2_3 := b3
        have c3_3 := Below.refl w3.heap.size w3
        have T7 := (Texts.one ((i4.below c0_3).more c0_3.size) h4 h4m).cons ((Texts.one ((qi.below c0_3).more c0_3.size) hmc hcm).cons (Texts.one (((Held.ints_of_vals (zs := [(k : Int) + 1]) v6 (by simpa using hw6)).below c2_3).more c2_3.size) (Nat.le_refl 1) (by simp [maxLen])))
        refine ⟨c0_3, ?_⟩
        simp only [Act.put, List.setIfInBounds_toArray, List.set_cons_zero, List.set_cons_succ]
        refine Held.one 8 (by kernel_rfl) ?_
        refine Held.op_call 8 (some 18) 50 #[.slice (some ⟨xk, 0, none⟩) 32 32, .slice (some ⟨p7, 0, none⟩) 3 3] rfl rfl rfl rfl (enters_of Tryd.func50 (by kernel_rfl) rfl) (by simp [Act.eval])
          (tag_any _ _ _ _ 32 32 3 3 key _ [piece key info k, info, [(k : Int) + 1]] _ (kq.below c0_3) (Nat.le_refl 32) (by simp [maxLen]) (by omega) (v7.below c3_3) (T7.below c3_3) c0_3.size c3_3.size (by omega) HLEN.out (hT0.below c0_3 hT0.lt) (hT1.below c0_3 hT1.lt)) ?_
        rw [HX.out]
        rintro e w4 ⟨rfl, b4⟩
        have c0_4 := c0_3.trans (b4.mono c0_3.size)
        have c1_4 := c1_3.trans (b4.mono c1_3.size)
        have c2_4 := c2_3.trans (b4.mono c2_3.size)
        have c3_4 := b4
        refine ⟨_, rfl, c0_4, ?_⟩
        simp only [Act.put, List.setIfInBounds_toArray, List.set_cons_zero, List.set_cons_succ]
        refine Held.one 10 (by kernel_rfl) ?_
        refine Held.op_store_RowL 10 none 22 p9 22 .u8 _ (piece key info (k + 1)) rfl rfl rfl rfl rfl rfl (r9.below c1_4 r9.lt) 32 info_32 (piece_length _ _ _) (by simp) (piece_wf _ _ _) ?_
        intro w5 r10 g10
        have c0_5 := c0_4.grown g10 c0_4.size (fun r e => by have := h9.out; have := c0_0.size; cases e; omega)
        refine ⟨c0_5, ?_⟩
        simp only [Act.put]
        refine wpAnyH_done (by kernel_rfl) ?_ _
        have J9 := hJ k wr w5 none Jk (grown_of_below c0_5 none) (fun r e => by cases e)
        have o9 : Only S wr w5 := Only.of_below c0_5
        obtain ⟨fn, tmps, assign, body, hy, hR⟩ := hY k (piece key info (k + 1)) w5 J9 (by simp [hlt255])
        have r9' := r10
        gi_wp2_with (refine wpListIn_load_Row rfl 22 _ rfl p9 rfl 22 .u8 _ r10 32 5 Tryd.underlying22 info_32 (piece_length _ _ _) ?_)
        refine ⟨fun h => (by cases h), ?_⟩
        refine hR.mono ?_
        rintro e W4 (⟨rfl, J4, o4⟩ | ⟨rfl, Jx4⟩)
        · have hp9 : ¬ S p9 := fun e => by have := hSlt p9 e; omega
          have r4 := o4.row hp9 r10
          gi_wp2_with fail
          go_roundw
          case rel => exact ⟨k + 1, _, 32, 32, by omega, by go_num, rfl, by omega, by simp [maxLen], by omega, nextI r4 hp9, J4, (ok.trans o9).trans o4⟩
          case measure => simp [intOf]; omega
        · gi_wp2_with fail
          exact bodyPost_ret (results_none rfl _ _ _) rfl ⟨⟨_, rfl⟩, .inr ⟨_, Jx4⟩⟩
    · have hk255 : k = 255 := by omega
      subst hk255
      gi_wp2_with fail
      go_end0
      exact ⟨⟨_, rfl⟩, .inl ⟨255, by simp, Jk⟩⟩
end Go.Proofs.YtoelgcdjhekafaaDoor.Hkdf
namespace Go.Proofs.YtoelgcdjhekafaaDoor.Hkdf
open Go.RowKit Go.Shelf Go.Proofs.YtoelgcdjhekafaaDoor.Mem Go.Proofs.YtoelgcdjhekafaaDoor.Help Go.Proofs.YtoelgcdjhekafaaDoor.Sum Go.Proofs.YtoelgcdjhekafaaDoor.Sha Go.Proofs.YtoelgcdjhekafaaDoor.Mac Go.Proofs.YtoelgcdjhekafaaDoor.Range Go.Proofs.YtoelgcdjhekafaaDoor
set_option linter.unusedVariables false
attribute [local go_sem] Oper.semAt_some
attribute [local irreducible] wpList wpListIn

set_option maxRecDepth 100000 in
set_option maxHeartbeats 4000000 in
theorem expand_bad (key : List Int) (hkb : ∀ z ∈ key, (Lit.int .u8 z).wf = true) (A : Option Addr) (m c : Nat) (x : Int) (w : World) (hx : x < 1 ∨ 8160 < x) :
    Calls Tryd.prog 41 #[.agg (arr .u8 key), .slice A m c, .int .i64 x] w fun e w' => e = .returned (.tuple #[.slice none 0 0, .int .i64 1]) ∧ Below w.heap.size w w' := by
  by_cases h1 : x < 1
  · go_enter Tryd.func41, Tryd.ntmps41
    go_wp2_with (refine wpList_box_Row rfl 22 _ rfl .u8 key rfl hkb ?_; intro w1 r1 g1 z1)
    have b1 : Below w.heap.size w w1 := (Below.refl _ w).grown g1 (Nat.le_refl _) (by simp)
    go_ret2
    exact ⟨rfl, b1.alloc b1.size _⟩
  · have h2 : 8160 < x := by omega
    go_enter Tryd.func41, Tryd.ntmps41
    go_wp2_with (refine wpList_box_Row rfl 22 _ rfl .u8 key rfl hkb ?_; intro w1 r1 g1 z1)
    have b1 : Below w.heap.size w w1 := (Below.refl _ w).grown g1 (Nat.le_refl _) (by simp)
    go_ret2
    exact ⟨rfl, b1.alloc b1.size _⟩

/-- what stands between two rounds -/
def Inv (w : World) (g lb nb n : Nat) (key info : List Int) (k : Nat) (W : World) : Prop :=
  32 * k < n ∧ W.heap[lb]? = some (.cells #[.slice (some ⟨g, 0, none⟩) (32 * k) n] 34 (0, 0)) ∧ Mem.Own W w.heap.size 5 .u8 (.slice (some ⟨g, 0, none⟩) (32 * k) n) (out key info (32 * k)) ∧
    W.heap[nb]? = some (.cells #[.int .i64 (n : Int)] 3 (0, 0)) ∧ Below w.heap.size w W
/-- what stands when the body has left -/
def Done (w : World) (g lb n : Nat) (key info : List Int) (c : Code) (k : Nat) (W : World) : Prop :=
  c = .exit 0 ∧ W.heap[lb]? = some (.cells #[.slice (some ⟨g, 0, none⟩) n n] 34 (0, 0)) ∧ Mem.Own W w.heap.size 5 .u8 (.slice (some ⟨g, 0, none⟩) n n) (out key info n) ∧ Below w.heap.size w W
theorem Inv.far (w : World) (g lb nb n : Nat) (key info : List Int) {B : Nat} (hw : w.heap.size < B) (hg : g < B) (hl : lb < B) (hn : nb < B) : Far B (Inv w g lb nb n key info) := by
  intro k W W' row h hgr hr
  have hne : ∀ i, i < B → some i ≠ row := fun i hi e => by have := hr i e.symm; omega
  obtain ⟨h0, h1, h2, h3, h4⟩ := h
  refine ⟨h0, Held.keep_cells h1 hgr (hne _ hl), h2.kept hgr (.inr (hne _ hg)), Held.keep_cells h3 hgr (hne _ hn), h4.grown hgr h4.size (fun r e => by have := hr r e; omega)⟩
theorem Done.far (w : World) (g lb n : Nat) (key info : List Int) (c : Code) {B : Nat} (hw : w.heap.size < B) (hg : g < B) (hl : lb < B) : Far B (Done w g lb n key info c) := by
  intro k W W' row h hgr hr
  have hne : ∀ i, i < B → some i ≠ row := fun i hi e => by have := hr i e.symm; omega
  obtain ⟨h0, h1, h2, h4⟩ := h
  refine ⟨h0, Held.keep_cells h1 hgr (hne _ hl), h2.kept hgr (.inr (hne _ hg)), h4.grown hgr h4.size (fun r e => by have := hr r e; omega)⟩

set_option maxRecDepth 100000 in
set_option maxHeartbeats 8000000 in
theorem expand_any (key info : List Int) (hk : key.length = 32) (hkb : ∀ z ∈ key, (Lit.int .u8 z).wf = true) (B : Nat) (A : Option Addr) (m c n : Nat) (w : World) (hi : Ints w .u8 B A m info) (hB : B ≤ w.heap.size) (hmc : m ≤ c) (hcm : c ≤ maxLen) (hm : m ≤ 274877906944)
    (hn1 : 1 ≤ n) (hn2 : n ≤ 8160) (hT0 : Tab w 3 Sum.H0) (hT1 : Tab w 4 Sum.K) :
    Calls Tryd.prog 41 #[.agg (arr .u8 key), .slice A m c, .int .i64 (n : Int)] w fun e w' => ∃ g, e = .returned (.tuple #[.slice (some ⟨g, 0, none⟩) n n, .int .i64 0]) ∧ w.heap.size ≤ g ∧ Row w' g 5 .u8 (out key info n) ∧ Below w.heap.size w w' := by
  refine (callsIn_wide (n := 3)).1 ?_
  refine callsIn_of_wp_marks Tryd.func41 rfl trivial ?_ rfl
  simp only [Tryd.ntmps41, List.size_toArray, List.length_cons, List.length_nil, Nat.reduceAdd, Nat.reduceSub, Array.replicate_succ, Array.replicate_zero, List.push_toArray, List.append_toArray, List.nil_append, List.cons_append]
  have HK := Lib.hid hk
  clear hk
  have q1 : ¬ (n : Int) < 1 := by omega
  have q2 : ¬ (8160 : Int) < (n : Int) := by omega
  obtain ⟨i0, hi0, hz0, hs0, hb0⟩ := info_parts info_u8
  gi_wp2_with (first
    | (refine wpListIn_box_Row rfl 22 _ rfl .u8 key rfl hkb ?_; intro w1 r1 g1 z1)
    | (refine Held.wpListIn_box_cell (w := w1) rfl 3 _ rfl (.int .i64 (n : Int)) rfl rfl ?_; intro w2 h2 g2 z2; have cn2 := cell_of_one h2)
    | (refine wpListIn_make_own w2 rfl _ _ 34 rfl w.heap.size 5 i0 (.int .u8 0) 1 Tryd.underlying34 hi0 hz0 hs0 .i64 .i64 _ n rfl rfl (by omega) (by rw [hb0]; omega) (by unfold maxLen; omega) (by have := g1.size; have := g2.size; omega) ?_; intro w3 hown3 g3)
    | (refine Held.wpListIn_alloc_cell (w := w3) rfl 34 rfl (.slice none 0 0) (by kernel_rfl) rfl ?_; intro w4 h4 g4 z4)
    | (refine Held.wpListIn_store_box (w := w4) rfl 34 _ _ rfl w3.heap.size rfl 34 _ (.slice (some ⟨w2.heap.size, 0, none⟩) 0 n) rfl h4 (by kernel_rfl) rfl rfl ?_; intro w5 h5 g5; have r15 := (((r1.grown g2 (by simp)).grown g3 (by simp)).grown g4 (by simp)).grown g5 (by have := g1.size; have := g2.size; have := g3.size; intro e; injection e with e; have := r1.lt; omega))
    | (refine wpListIn_load_Row (w := w5) rfl 22 _ rfl w.heap.size rfl 22 .u8 _ r15 32 5 Tryd.underlying22 info_32 HK.out ?_))
  obtain ⟨nb, hnb⟩ : ∃ nb, w1.heap.size = nb := ⟨_, rfl⟩
  obtain ⟨g, hg⟩ : ∃ g, w2.heap.size = g := ⟨_, rfl⟩
  obtain ⟨lb, hlb⟩ : ∃ lb, w3.heap.size = lb := ⟨_, rfl⟩
  have e1 := z1.out
  have e2 := z2.out
  have lg : w2.heap.size < w3.heap.size := (hown3.lt _ rfl).2
  have s4 := g4.size
  have s5 := g5.size
  have c2 : Below w.heap.size w w2 := ((Below.refl _ w).grown g1 (Nat.le_refl _) (by simp)).grown g2 (by omega) (by simp)
  have c5 : Below w.heap.size w w5 := ((c2.grown g3 c2.size (by simp)).grown g4 (by omega) (by simp)).grown g5 (by omega) (fun r e => by cases e; omega)
  rw [hnb] at e1 e2 h2
  rw [hg] at e2
  rw [hg] at lg hown3 h5
  rw [hlb] at lg s4 h5 g5
  rw [hnb, hg, hlb]
  have o5 : Mem.Own w5 w.heap.size 5 .u8 (.slice (some ⟨g, 0, none⟩) 0 n) (out key info 0) := by
    rw [out_zero]
    have o3 : Mem.Own w3 w.heap.size 5 .u8 (.slice (some ⟨g, 0, none⟩) 0 n) [] := ⟨by simp, hown3⟩
    exact (o3.kept g4 (.inr (by simp [Value.ownBlock]))).kept g5 (.inr (fun e => by have e : some g = some lb := e; injection e with e; omega))
  have n5 := Held.keep_cells (Held.keep_cells (Held.keep_cells h2 g3 (by simp)) g4 (by simp)) g5 (by intro e; injection e with e; omega)
  have i5 : Inv w g lb nb n key info 0 w5 := ⟨by omega, h5, o5, n5, c5⟩
  have hwn : w.heap.size < nb := by omega
  have hng : nb < g := by omega
  have hl5 : lb < w5.heap.size := (Array.getElem?_eq_some_iff.1 h5).1
  clear e1 e2 s4 s5 c2 n5 o5 h2 h5 h4 hown3 g1 g2 g3 g4 g5 z1 z2 z4 cn2 r1 r15 hnb hg hlb hi0 hz0 hs0 hb0
  refine ⟨trivial, ?_⟩
  refine (callsIn_wide.2 (follow_any key hkb A m c w5)).mono ?_
  rintro e W6 ⟨rfl, rk, ck, b6, z6⟩
  have i6 : Inv w g lb nb n key info 0 W6 := Inv.far w g lb nb n key info (B := w5.heap.size) (by omega) (by omega) hl5 (by omega) 0 _ _ none i5 (grown_of_below b6 none) (fun r e => by cases e)
  have c6 := i6.2.2.2.2
  obtain ⟨fb, hfb⟩ : ∃ fb, w5.heap.size = fb := ⟨_, rfl⟩
  rw [hfb] at rk ck b6 z6 hl5 ⊢
  have hSlt : ∀ b, b < w.heap.size → ¬ (b = g ∨ b = lb) := fun b hb e => by omega
  have z6' := z6.out
  have hit := fun n => follow_stop n fb (fb + 1) (fun b => b = g ∨ b = lb) key info A m c W6 rk HK.out ck (by omega) (by omega) (IntsN.of (hi.below (c6.mono hB)) (fun b hb => hSlt b (by omega))) hmc hcm hm (fun b hb => by omega) (hT0.below c6 hT0.lt) (hT1.below c6 hT1.lt) (hSlt _ hT0.lt) (hSlt _ hT1.lt)
  clear rk ck b6 i5 c5 hfb
  gi_wp2_with fail
  refine wpIn_rangeFunc_stop rfl (by omega) (gf := 59) (lb := #[.pointer (some ⟨fb, 0, none⟩), .pointer (some ⟨fb + 1, 0, none⟩)]) rfl trivial (enters_of Tryd.func59 (by kernel_rfl) rfl)
    (hit _) (fun h k => h.trans k) (fun W l o o' hl ho hc _ => Only.put W l o o' ho hc) (Below.refl _ _) (fun _ => rfl)
    256 (Inv w g lb nb n key info) (Done w g lb n key info) (Inv.far w g lb nb n key info (by omega) (by omega) (by omega) (by omega)) (fun c => Done.far w g lb n key info c (by omega) (by omega) (by omega)) (fun k W h => by have := h.1; omega) i6
    (fun x a' k W => Inv w g lb nb n key info k W ∧ ∃ p, lb < p ∧ Row W p 22 .u8 x ∧ a' = { tmps := #[.agg (arr .u8 key), .slice A m c, .int .i64 (n : Int), .pointer (some ⟨w.heap.size, 0, none⟩), undef, .pointer (some ⟨nb, 0, none⟩), .slice none 0 0, .int .i64 0, .pointer (some ⟨lb, 0, none⟩), .pointer (some ⟨p, 0, none⟩), .int .i64 (n : Int), .bool false, .bool false, .int .i64 (n : Int), .bool false, .bool false, .int .i64 (n : Int), .slice (some ⟨g, 0, none⟩) 0 n, .agg (arr .u8 key), .slice A m c, .func (.func 59) #[] #[.pointer (some ⟨fb, 0, none⟩), .pointer (some ⟨fb + 1, 0, none⟩)], .agg (arr .u8 x), undef, undef, undef, undef, undef, undef, undef, undef, undef, undef, undef, undef, undef], defers := [] }) ?ib ?assign ?body ?done ?stop
  case ib =>
    rintro x a' k W W' row ⟨hi, p, hp, hr, h3⟩ hgr hrow
    exact ⟨Inv.far w g lb nb n key info (B := lb + 1) (by omega) (by omega) (by omega) (by omega) k W W' row hi hgr (fun r e => by have := (hrow r e).1; omega), p, hp, hr.grown hgr (Held.ne_of_cells hr.2 (fun r e => (hrow r e).2)), h3⟩
  case assign =>
    intro l k x W K hi hat hsz hK
    have hxl : x.length = 32 := by
      have hat : (if k < 255 then some (piece key info (k + 1)) else none) = some x := hat
      split at hat
      · injection hat with hat; rw [← hat]; exact piece_length _ _ _
      · cases hat
    have hxw : ∀ z ∈ x, (Lit.int .u8 z).wf = true := by
      have hat : (if k < 255 then some (piece key info (k + 1)) else none) = some x := hat
      split at hat
      · injection hat with hat; rw [← hat]; exact piece_wf _ _ _
      · cases hat
    have HXL := Lib.hid hxl
    have HXW := Lib.hid hxw
    have HAT := Lib.hid hat
    clear hxl hxw hat
    simp only [Held.zip_one, List.setIfInBounds_toArray, List.set_cons_zero, List.set_cons_succ]
    gi_wp2_with (first
      | (refine wpListIn_alloc_Row rfl 22 rfl .u8 32 zero_32 ?_; intro w1 r1 g1 z1)
      | (refine wpListIn_store_RowTo (w := w1) rfl 22 _ _ rfl W.heap.size rfl 22 .u8 _ x rfl r1 32 info_32 HXL.out (by simp) HXW.out ?_; intro w2 r2 g2 z2))
    have b2 : Below W.heap.size W w2 := ((Below.refl _ W).grown g1 (Nat.le_refl _) (by simp)).grown g2 g1.size (fun r e => by cases e; exact Nat.le_refl _)
    exact hK _ _ ((Held.others_of_new g1).trans (Held.others_of_grown r1.2 g2)) (Only.of_below b2) ⟨Inv.far w g lb nb n key info (B := W.heap.size) (by omega) (by omega) (by omega) (by omega) k _ _ none hi (grown_of_below b2 none) (fun r e => by cases e), W.heap.size, by omega, r2, rfl⟩
  case body =>
    rintro l k x a' W hl hrec ⟨⟨i0, i1, i2, i3, i4⟩, p, hp, hr, rfl⟩ hat hsz
    have hat : (if k < 255 then some (piece key info (k + 1)) else none) = some x := hat
    have hk255 : k < 255 := by
      by_cases h : k < 255
      · exact h
      · rw [if_neg h] at hat; cases hat
    rw [if_pos hk255] at hat
    injection hat with hat
    subst hat
    obtain ⟨q, hq⟩ : ∃ q, 32 * k = q := ⟨_, rfl⟩
    rw [hq] at i0 i1 i2
    obtain ⟨j, hj⟩ : ∃ j, j = min 32 (n - q) := ⟨_, rfl⟩
    obtain ⟨L, hLL⟩ : ∃ L, q + j = L := ⟨_, rfl⟩
    have hj32 : j ≤ 32 := by omega
    have HQL := Lib.hid (show (out key info q).length = q from out_length _ _ _ (by omega))
    have HO := Lib.hid (show out key info q ++ (piece key info (k + 1)).take j = out key info L by rw [← hLL, ← hq]; exact out_step key info k j hk255 hj32)
    have HL := Lib.hid hLL
    have ip := hr.ints (n := j) (by rw [piece_length]; omega)
    have cl := cell_of_one i1
    obtain ⟨cs, hcs⟩ := i2.cells_
    have hsub : IntKind.i64.wrap ((n : Int) - (q : Int)) = ((n - q : Nat) : Int) := by simp [IntKind.wrap, IntKind.bits, IntKind.signed]; omega
    have hmin : (if ((n - q : Nat) : Int) < 32 then ((n - q : Nat) : Int) else 32) = (j : Int) := by split <;> omega
    have hLn : L ≤ n := by omega
    clear hrec
    gi_wp2_with fail
    refine Held.wpIn_region_heldR (r := some l) (S := fun X => X.heap[nb]? = some (.cells #[.int .i64 (n : Int)] 3 (0, 0))) rfl (by kernel_rfl) (by kernel_rfl) (fun a w h => h) ?_
    change wpAnyH _ _ _ _ _ _ _ _ W.drew
    have c0_0 : W.drew.heap[nb]? = some (.cells #[.int .i64 (n : Int)] 3 (0, 0)) := i3
    refine Held.take (v := .int .i64 (n : Int)) 1 (some 23) rfl rfl (by kernel_rfl) (by kernel_rfl) (by kernel_rfl) (fun _ _ _ h => h) rfl (Held.y_load rfl rfl (by kernel_rfl) (fun X h => cell_of_one h)) c0_0 ?_
    simp only [Act.put, List.setIfInBounds_toArray, List.set_cons_zero, List.set_cons_succ]
    refine Held.two 0 2 (by kernel_rfl) ?_ ?_
    · refine Held.op_load 0 (some 22) 34 ⟨lb, 0, none⟩ (.slice (some ⟨g, 0, none⟩) q n) rfl rfl rfl rfl rfl (Held.run_loadVar_cell _ _ _ _ (by kernel_rfl) cl) ?_
      have c0_1 := c0_0
      refine ⟨c0_1, ?_⟩
      simp only [Act.put, List.setIfInBounds_toArray, List.set_cons_zero, List.set_cons_succ]
      refine Held.one 2 (by kernel_rfl) ?_
      refine Held.op_load 2 (some 24) 34 ⟨lb, 0, none⟩ (.slice (some ⟨g, 0, none⟩) q n) rfl rfl rfl rfl rfl (Held.run_loadVar_cell _ _ _ _ (by kernel_rfl) cl) ?_
      have c0_2 := c0_1
      refine ⟨c0_2, ?_⟩
      simp only [Act.put, List.setIfInBounds_toArray, List.set_cons_zero, List.set_cons_succ]
      refine Held.take (v := .int .i64 (q : Int)) 3 (some 25) rfl rfl (by kernel_rfl) (by kernel_rfl) (by kernel_rfl) (fun _ _ _ h => h) rfl (Held.y_len rfl rfl (by kernel_rfl)) c0_2 ?_
      simp only [Act.put, List.setIfInBounds_toArray, List.set_cons_zero, List.set_cons_succ]
      refine Held.take (v := .int .i64 ((n - q : Nat) : Int)) 4 (some 26) rfl rfl (by kernel_rfl) (by kernel_rfl) (by kernel_rfl) (fun _ _ _ h => h) rfl (Held.y_int rfl rfl rfl (Held.run_sub 3 .i64 hsub)) c0_2 ?_
      simp only [Act.put, List.setIfInBounds_toArray, List.set_cons_zero, List.set_cons_succ]
      refine Held.take (v := .int .i64 (j : Int)) 5 (some 27) rfl rfl (by kernel_rfl) (by kernel_rfl) (by kernel_rfl) (fun _ _ _ h => h) rfl (Held.y_min rfl rfl rfl hmin) c0_2 ?_
      simp only [Act.put, List.setIfInBounds_toArray, List.set_cons_zero, List.set_cons_succ]
      refine Held.take (v := .slice (some ⟨p, 0, none⟩) j 32) 6 (some 28) rfl rfl (by kernel_rfl) (by kernel_rfl) (by kernel_rfl) (fun _ _ _ h => h) rfl (Held.y_slice rfl (fun X => Held.run_slice_arr_h (P := Tryd.prog) 22 5 32 p j X Tryd.underlying22 (by kernel_rfl) (by omega) hj32)) c0_2 ?_
      simp only [Act.put, List.setIfInBounds_toArray, List.set_cons_zero, List.set_cons_succ]
      refine Held.one 7 (by kernel_rfl) ?_
      refine Held.op_append_fits 7 (some 29) 34 rfl rfl rfl rfl w.heap.size 5 .u8 1 Tryd.underlying34 info_u8 g n q (out key info q) rfl HQL.out (i2.drewN 1) W.heap.size (some ⟨p, 0, none⟩) j 32 ((piece key info (k + 1)).take j) rfl (ip.drew) L HL.out (by omega) ?_
      intro wA oA gA
      have c0_3 := Held.keep_cells c0_2 gA (by simp; omega)
      refine ⟨c0_3, ?_⟩
      simp only [Act.put, List.setIfInBounds_toArray, List.set_cons_zero, List.set_cons_succ]
      refine Held.one 8 (by kernel_rfl) ?_
      refine Held.op_store_box 8 none 34 lb 34 _ (.slice (some ⟨g, 0, none⟩) L n) rfl rfl rfl rfl rfl rfl (Held.keep_cells (w := W.drew) i1 gA (by simp; omega)) (by kernel_rfl) rfl rfl ?_
      intro wB lB gB
      have c0_4 := Held.keep_cells c0_3 gB (by simp; omega)
      refine ⟨c0_4, ?_⟩
      simp only [Act.put]
      refine wpAnyH_done (by kernel_rfl) ?_ _
      have cB := cell_of_one lB
      have nB := cell_of_one c0_4
      have kA := Held.others_of_grown (w := W.drew) hcs gA
      have kB := Held.others_of_grown (Held.keep_cells (w := W.drew) i1 gA (by simp; omega)) gB
      have kW : KeepsOthers W wB := KeepsOthers.trans (show KeepsOthers W wA from ⟨kA.size, kA.same⟩) kB
      have oW : Only (fun b => b = g ∨ b = lb) W wB := Only.trans (show Only _ W wA from ⟨gA.size, (Only.of_grown (w := W.drew) gA (S := fun b => b = g ∨ b = lb) (fun r e => by cases e; exact .inl rfl)).block⟩) (Only.of_grown gB (fun r e => by cases e; exact .inr rfl))
      have oB := oA.kept gB (.inr (fun e => by have e : some g = some lb := e; injection e with e; omega))
      rw [HO.out] at oB
      have bB : Below w.heap.size w wB := ((i4.drew).grown gA i4.size (fun r e => by cases e; omega)).grown gB (by have := i4.size; have := gA.size; exact Nat.le_trans (by assumption) this) (fun r e => by cases e; omega)
      by_cases hlast : L = n
      · have t1 : (decide ((L : Int) = (n : Int))) = true := by simp [hlast]
        gi_wp2_with fail
        exact ⟨kW, rfl, by rw [← hlast] at lB ⊢; exact lB, by rw [← hlast] at oB ⊢; exact oB, bB⟩
      · have t1 : ¬ ((L : Int) = (n : Int)) := by omega
        gi_wp2_with fail
        exact ⟨kW, oW, by omega, by rw [show 32 * (k + 1) = L by omega]; exact lB, by rw [show 32 * (k + 1) = L by omega]; exact oB, c0_4, bB⟩
    · refine Held.op_load 2 (some 24) 34 ⟨lb, 0, none⟩ (.slice (some ⟨g, 0, none⟩) q n) rfl rfl rfl rfl rfl (Held.run_loadVar_cell _ _ _ _ (by kernel_rfl) cl) ?_
      have c0_1 := c0_0
      refine ⟨c0_1, ?_⟩
      simp only [Act.put, List.setIfInBounds_toArray, List.set_cons_zero, List.set_cons_succ]
      refine Held.take (v := .int .i64 (q : Int)) 3 (some 25) rfl rfl (by kernel_rfl) (by kernel_rfl) (by kernel_rfl) (fun _ _ _ h => h) rfl (Held.y_len rfl rfl (by kernel_rfl)) c0_1 ?_
      simp only [Act.put, List.setIfInBounds_toArray, List.set_cons_zero, List.set_cons_succ]
      refine Held.take (v := .int .i64 ((n - q : Nat) : Int)) 4 (some 26) rfl rfl (by kernel_rfl) (by kernel_rfl) (by kernel_rfl) (fun _ _ _ h => h) rfl (Held.y_int rfl rfl rfl (Held.run_sub 3 .i64 hsub)) c0_1 ?_
      simp only [Act.put, List.setIfInBounds_toArray, List.set_cons_zero, List.set_cons_succ]
      refine Held.take (v := .int .i64 (j : Int)) 5 (some 27) rfl rfl (by kernel_rfl) (by kernel_rfl) (by kernel_rfl) (fun _ _ _ h => h) rfl (Held.y_min rfl rfl rfl hmin) c0_1 ?_
      simp only [Act.put, List.setIfInBounds_toArray, List.set_cons_zero, List.set_cons_succ]
      refine Held.take (v := .slice (some ⟨p, 0, none⟩) j 32) 6 (some 28) rfl rfl (by kernel_rfl) (by kernel_rfl) (by kernel_rfl) (fun _ _ _ h => h) rfl (Held.y_slice rfl (fun X => Held.run_slice_arr_h (P := Tryd.prog) 22 5 32 p j X Tryd.underlying22 (by kernel_rfl) (by omega) hj32)) c0_1 ?_
      simp only [Act.put, List.setIfInBounds_toArray, List.set_cons_zero, List.set_cons_succ]
      refine Held.one 0 (by kernel_rfl) ?_
      refine Held.op_load 0 (some 22) 34 ⟨lb, 0, none⟩ (.slice (some ⟨g, 0, none⟩) q n) rfl rfl rfl rfl rfl (Held.run_loadVar_cell _ _ _ _ (by kernel_rfl) cl) ?_
      have c0_2 := c0_1
      refine ⟨c0_2, ?_⟩
      simp only [Act.put, List.setIfInBounds_toArray, List.set_cons_zero, List.set_cons_succ]
      refine Held.one 7 (by kernel_rfl) ?_
      refine Held.op_append_fits 7 (some 29) 34 rfl rfl rfl rfl w.heap.size 5 .u8 1 Tryd.underlying34 info_u8 g n q (out key info q) rfl HQL.out (i2.drewN 1) W.heap.size (some ⟨p, 0, none⟩) j 32 ((piece key info (k + 1)).take j) rfl (ip.drew) L HL.out (by omega) ?_
      intro wA oA gA
      have c0_3 := Held.keep_cells c0_2 gA (by simp; omega)
      refine ⟨c0_3, ?_⟩
      simp only [Act.put, List.setIfInBounds_toArray, List.set_cons_zero, List.set_cons_succ]
      refine Held.one 8 (by kernel_rfl) ?_
      refine Held.op_store_box 8 none 34 lb 34 _ (.slice (some ⟨g, 0, none⟩) L n) rfl rfl rfl rfl rfl rfl (Held.keep_cells (w := W.drew) i1 gA (by simp; omega)) (by kernel_rfl) rfl rfl ?_
      intro wB lB gB
      have c0_4 := Held.keep_cells c0_3 gB (by simp; omega)
      refine ⟨c0_4, ?_⟩
      simp only [Act.put]
      refine wpAnyH_done (by kernel_rfl) ?_ _
      have cB := cell_of_one lB
      have nB := cell_of_one c0_4
      have kA := Held.others_of_grown (w := W.drew) hcs gA
      have kB := Held.others_of_grown (Held.keep_cells (w := W.drew) i1 gA (by simp; omega)) gB
      have kW : KeepsOthers W wB := KeepsOthers.trans (show KeepsOthers W wA from ⟨kA.size, kA.same⟩) kB
      have oW : Only (fun b => b = g ∨ b = lb) W wB := Only.trans (show Only _ W wA from ⟨gA.size, (Only.of_grown (w := W.drew) gA (S := fun b => b = g ∨ b = lb) (fun r e => by cases e; exact .inl rfl)).block⟩) (Only.of_grown gB (fun r e => by cases e; exact .inr rfl))
      have oB := oA.kept gB (.inr (fun e => by have e : some g = some lb := e; injection e with e; omega))
      rw [HO.out] at oB
      have bB : Below w.heap.size w wB := ((i4.drew).grown gA i4.size (fun r e => by cases e; omega)).grown gB (by have := i4.size; have := gA.size; exact Nat.le_trans (by assumption) this) (fun r e => by cases e; omega)
      by_cases hlast : L = n
      · have t1 : (decide ((L : Int) = (n : Int))) = true := by simp [hlast]
        gi_wp2_with fail
        exact ⟨kW, rfl, by rw [← hlast] at lB ⊢; exact lB, by rw [← hlast] at oB ⊢; exact oB, bB⟩
      · have t1 : ¬ ((L : Int) = (n : Int)) := by omega
        gi_wp2_with fail
        exact ⟨kW, oW, by omega, by rw [show 32 * (k + 1) = L by omega]; exact lB, by rw [show 32 * (k + 1) = L by omega]; exact oB, c0_4, bB⟩
  case done =>
    rintro D k W hD hat ⟨h0, _⟩ hDl
    have hat : (if k < 255 then some (piece key info (k + 1)) else none) = none := hat
    by_cases h : k < 255
    · rw [if_pos h] at hat; cases hat
    · omega
  case stop =>
    rintro D c k W hD ⟨rfl, i1, i2, ib⟩ hDl
    have cl := cell_of_one i1
    gi_wp2_with fail
    have ge : w.heap.size ≤ g := by omega
    have hf := (i2.fill (M := (out key info n).map (Value.int .u8)) (by rw [List.take_of_length_le]; simp [out_length key info n hn2])).done (Nat.le_refl _) (by simp [out_length key info n hn2])
    have hgD : g ≠ D := by omega
    refine ⟨by simp, .inl ⟨_, _, rfl, run_takeDeferred hDl, ?_⟩⟩
    have r9 : Row (W.putObj D (.deferred none)) g 5 .u8 (out key info n) := ⟨out_wf _ _ _, (World.putObj_heap_other hgD).trans hf⟩
    refine ⟨_, results_tmp2 rfl _ _ _, g, rfl, ge, r9, ?_⟩
    exact ib.grown (grownBy_putObj' _ D _) ib.size (fun r e => by have := c6.size; cases e; omega)
end Go.Proofs.YtoelgcdjhekafaaDoor.Hkdf
namespace Go.Proofs.YtoelgcdjhekafaaDoor.Hkdf
open Go.RowKit Go.Shelf Go.Proofs.YtoelgcdjhekafaaDoor.Mem Go.Proofs.YtoelgcdjhekafaaDoor.Help Go.Proofs.YtoelgcdjhekafaaDoor.Sum Go.Proofs.YtoelgcdjhekafaaDoor.Sha Go.Proofs.YtoelgcdjhekafaaDoor.Mac Go.Proofs.YtoelgcdjhekafaaDoor
set_option linter.unusedVariables false
attribute [local irreducible] wpList

/-- one key out of another -/
def hkey (salt key info : List Int) : List Int := out (tag salt key) info 32
theorem hkey_length (salt key info : List Int) : (hkey salt key info).length = 32 := out_length _ _ _ (by omega)
theorem hkey_wf (salt key info : List Int) : ∀ z ∈ hkey salt key info, (Lit.int .u8 z).wf = true := out_wf _ _ _
theorem tag_wf (key msg : List Int) : ∀ z ∈ tag key msg, (Lit.int .u8 z).wf = true := fun z hz => wf_of_byte (tag_bytes _ _ z hz)

theorem hkey_def (salt key info : List Int) : hkey salt key info = out (tag salt key) info 32 := rfl
attribute [irreducible] hkey

set_option maxRecDepth 100000 in
set_option maxHeartbeats 1000000 in
theorem extract_any (B B' : Nat) (A A' : Option Addr) (n c n' c' : Nat) (salt key : List Int) (w : World) (h : Ints w .u8 B A n salt) (hB : B ≤ w.heap.size) (hc : n ≤ c) (hc' : c ≤ maxLen) (hn : n ≤ 274877906944)
    (h' : Ints w .u8 B' A' n' key) (hB' : B' ≤ w.heap.size) (hd : n' ≤ c') (hd' : c' ≤ maxLen) (hn' : n' ≤ 274877906944) (hT0 : Tab w 3 Sum.H0) (hT1 : Tab w 4 Sum.K) :
    Calls Tryd.prog 42 #[.slice A n c, .slice A' n' c'] w fun e w' => e = .returned (.agg (arr .u8 (tag salt key))) ∧ Below w.heap.size w w' := by
  go_enter Tryd.func42, Tryd.ntmps42
  go_wp2_with (refine wpList_alloc_Row rfl 22 rfl .u8 32 zero_32 ?_; intro w1 r1 g1 z1)
  have b1 : Below w.heap.size w w1 := (Below.refl _ w).grown g1 (Nat.le_refl _) (by simp)
  have l1 := r1.lt
  refine (tag_one w1 B B' A A' n c n' c' 1 salt key (h.below (b1.mono hB)) (by omega) hc hc' (by omega) (h'.below (b1.mono hB')) (by omega) hd hd' (by omega) (hT0.below b1 hT0.lt) (hT1.below b1 hT1.lt)).mono ?_
  rintro e w2 ⟨rfl, hb2⟩
  have b2 := b1.trans (hb2.mono b1.size)
  have r2 := r1.below hb2 l1
  clear hb2 b1 r1 g1 z1
  go_wp2_with (refine wpList_store_RowTo rfl 22 _ _ rfl w.heap.size rfl 22 .u8 _ (tag salt key) rfl r2 32 info_32 (tag_length _ _) (by simp) (tag_wf _ _) ?_; intro w3 r3 g3 z3)
  exact bodyPost_ret (results_Row rfl _ _ w.heap.size _ _ _ rfl r3 32 5 Tryd.underlying22 info_32 (tag_length _ _)) rfl ⟨rfl, b2.grown g3 b2.size (fun r e => by cases e; exact Nat.le_refl _)⟩

/-- Expand to 32 bytes -/
theorem expand_32 (key info : List Int) (hk : key.length = 32) (hkb : ∀ z ∈ key, (Lit.int .u8 z).wf = true) (B : Nat) (A : Option Addr) (m c : Nat) (w : World) (hi : Ints w .u8 B A m info) (hB : B ≤ w.heap.size) (hmc : m ≤ c) (hcm : c ≤ maxLen) (hm : m ≤ 274877906944)
    (hT0 : Tab w 3 Sum.H0) (hT1 : Tab w 4 Sum.K) :
    Calls Tryd.prog 41 #[.agg (arr .u8 key), .slice A m c, .int .i64 32] w fun e w' => ∃ g, e = .returned (.tuple #[.slice (some ⟨g, 0, none⟩) 32 32, .int .i64 0]) ∧ w.heap.size ≤ g ∧ Row w' g 5 .u8 (out key info 32) ∧ Below w.heap.size w w' :=
  expand_any key info hk hkb B A m c 32 w hi hB hmc hcm hm (by omega) (by omega) hT0 hT1

theorem over_32 (xs : List Int) (h : xs.length = 32) : laidOver (List.replicate 32 0) 0 xs = xs := by
  rw [laidOver, List.take_zero, List.nil_append, Nat.zero_add, h, List.drop_of_length_le (by simp), List.append_nil]

set_option maxRecDepth 100000 in
set_option maxHeartbeats 2000000 in
theorem key_any (B B' B2 : Nat) (A A' A2 : Option Addr) (n c n' c' m c2 : Nat) (salt key info : List Int) (w : World) (h : Ints w .u8 B A n salt) (hB : B ≤ w.heap.size) (hc : n ≤ c) (hc' : c ≤ maxLen) (hn : n ≤ 274877906944)
    (h' : Ints w .u8 B' A' n' key) (hB' : B' ≤ w.heap.size) (hd : n' ≤ c') (hd' : c' ≤ maxLen) (hn' : n' ≤ 274877906944) (h2 : Ints w .u8 B2 A2 m info) (hB2 : B2 ≤ w.heap.size) (hmc : m ≤ c2) (hcm : c2 ≤ maxLen) (hm : m ≤ 274877906944)
    (hT0 : Tab w 3 Sum.H0) (hT1 : Tab w 4 Sum.K) :
    Calls Tryd.prog 36 #[.slice A n c, .slice A' n' c', .slice A2 m c2] w fun e w' => e = .returned (.agg (arr .u8 (hkey salt key info))) ∧ Below w.heap.size w w' := by
  have hsl := fun W g => run_slice_arr_all (P := Tryd.prog) 22 5 32 g W Tryd.underlying22 (by kernel_rfl) (by omega)
  go_enter Tryd.func36, Tryd.ntmps36
  go_wp2_with (first
    | (refine wpList_alloc_Row (w := w) rfl 22 rfl .u8 32 zero_32 ?_; intro w1 r1 g1 z1)
    | (refine wpList_alloc_Row (w := w1) rfl 22 rfl .u8 32 zero_32 ?_; intro w2 r2 g2 z2))
  have b2 : Below w.heap.size w w2 := ((Below.refl _ w).grown g1 (Nat.le_refl _) (by simp)).grown g2 g1.size (by simp)
  obtain ⟨g, hg⟩ : ∃ g, w1.heap.size = g := ⟨_, rfl⟩
  have hgw : w.heap.size < g := by rw [← hg]; exact r1.lt
  rw [hg] at r2 ⊢
  have r12 := r1.grown g2 (by simp)
  clear hg r1 g1 g2 z1 z2
  refine (extract_any B B' A A' n c n' c' salt key w2 (h.below (b2.mono hB)) (by have := b2.size; omega) hc hc' hn (h'.below (b2.mono hB')) (by have := b2.size; omega) hd hd' hn' (hT0.below b2 hT0.lt) (hT1.below b2 hT1.lt)).mono ?_
  rintro e w3 ⟨rfl, hb3⟩
  have b3 := b2.trans (hb3.mono b2.size)
  have q2 := r2.below hb3 r2.lt
  have q1 := r12.below hb3 r12.lt
  clear hb3 b2 r2 r12
  go_wp2_with fail
  refine (expand_32 (tag salt key) info (tag_length _ _) (tag_wf _ _) B2 A2 m c2 w3 (h2.below (b3.mono hB2)) (by have := b3.size; omega) hmc hcm hm (hT0.below b3 hT0.lt) (hT1.below b3 hT1.lt)).mono ?_
  rintro e w4 ⟨ga, rfl, hga, ra, hb4⟩
  have b4 := b3.trans (hb4.mono b3.size)
  have p2 := q2.below hb4 q2.lt
  have p1 := q1.below hb4 q1.lt
  have hgl := q2.lt
  have HO := Lib.hid (out_length (tag salt key) info 32 (by omega))
  have ia := ra.ints (n := 32) (by rw [HO.out]; omega)
  rw [List.take_of_length_le (by rw [HO.out]; omega)] at ia
  have HW := Lib.hid (out_wf (tag salt key) info 32)
  clear hb4 b3 q2 q1 ra
  have hfold : out (tag salt key) info 32 = hkey salt key info := (hkey_def _ _ _).symm
  rw [hfold] at ia HO HW
  obtain ⟨ks, hks⟩ : ∃ ks, hkey salt key info = ks := ⟨_, rfl⟩
  rw [hks] at ia HO HW
  have HKS := Lib.hid hks
  clear hfold hks
  go_wp2_with (first
    | (refine wpList_copy_Row (w := w4) rfl _ _ 34 34 rfl 5 Tryd.underlying34 (by kernel_rfl) g 0 32 32 w4.heap.size (some ⟨ga, 0, none⟩) 32 32 rfl rfl 22 .u8 _ ks p2 ia (by simp) ?_; intro w5 r5 g5 z5; rw [List.take_of_length_le (by rw [HO.out]; omega), over_32 _ HO.out] at r5; have p15 := p1.grown g5 (by intro e; injection e with e; omega))
    | (refine wpList_load_Row (w := w5) rfl 22 _ rfl g rfl 22 .u8 _ r5 32 5 Tryd.underlying22 info_32 HO.out ?_)
    | (refine wpList_store_RowTo (w := w5) rfl 22 _ _ rfl w.heap.size rfl 22 .u8 _ ks rfl p15 32 info_32 HO.out (by simp) HW.out ?_; intro w6 r6 g6 z6))
  have b6 : Below w.heap.size w w6 := (b4.grown g5 b4.size (fun r e => by cases e; omega)).grown g6 (by have := b4.size; have := g5.size; omega) (fun r e => by cases e; exact Nat.le_refl _)
  exact bodyPost_ret (results_Row rfl _ _ w.heap.size _ _ _ rfl r6 32 5 Tryd.underlying22 info_32 HO.out) rfl ⟨by rw [HKS.out], b6⟩
end Go.Proofs.YtoelgcdjhekafaaDoor.Hkdf
