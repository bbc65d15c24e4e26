/-
  The functions put, Pad and Words of package sha, each by its contract. Conditions: a message of at most 2^44 bytes; the table of constants lies where the program's text lays it.
-/
import Derived.Test.YtbfdhbobokfbhaaDoorSha3
namespace Go.Proofs.YtbfdhbobokfbhaaDoor.Sha
open Go.RowKit Go.Proofs.YtbfdhbobokfbhaaDoor.Mem Go.Proofs.YtbfdhbobokfbhaaDoor.Help Go.Proofs.YtbfdhbobokfbhaaDoor.Sum
set_option linter.unusedVariables false

/-- the last k of the len places from off on are written, the lowest byte last -/
def putL (zs : List Int) (off len : Nat) (x : Int) (k : Nat) : List Int :=
  (List.range zs.length).map fun j => if off + len - k ≤ j ∧ j < off + len then x / 2 ^ (8 * (off + len - 1 - j)) % 256 else zs.getD j 0
theorem putL_length (zs : List Int) (off len : Nat) (x : Int) (k : Nat) : (putL zs off len x k).length = zs.length := by simp [putL]
theorem putL_start (zs : List Int) (off len : Nat) (x : Int) : putL zs off len x 0 = zs := by
  apply List.ext_getElem (by rw [putL_length])
  intro i h1 h2
  simp only [putL, List.getElem_map, List.getElem_range]
  rw [if_neg (by omega)]
  simp [List.getD_eq_getElem?_getD, h2]
theorem putL_step (zs : List Int) (off len : Nat) (x : Int) {k : Nat} (hk : k < len) : putL zs off len x (k + 1) = (putL zs off len x k).set (off + (len - 1 - k)) (x / 2 ^ (8 * k) % 256) := by
  apply List.ext_getElem (by rw [List.length_set, putL_length, putL_length])
  intro i h1 h2
  rw [List.getElem_set]
  by_cases e : off + (len - 1 - k) = i
  · subst e
    rw [if_pos rfl]
    simp only [putL, List.getElem_map, List.getElem_range]
    rw [if_pos (by omega)]
    congr 3
    omega
  · rw [if_neg e]
    simp only [putL, List.getElem_map, List.getElem_range]
    by_cases q : off + len - k ≤ i ∧ i < off + len
    · rw [if_pos (by omega), if_pos q]
    · rw [if_neg (by omega), if_neg q]

theorem put_any (g off len cap : Nat) (t : TypeId) (zs : List Int) (x : Int) (w : World) (hx : 0 ≤ x) (hx' : x < 18446744073709551616) (hr : Row w g t .u8 zs) (hl : off + len ≤ zs.length) (hn : len ≤ 8) :
    Calls Tryd.prog 34 #[.slice (some ⟨g, off, none⟩) len cap, .int .u64 x] w fun e w' => e = .returned (.tuple #[]) ∧ Row w' g t .u8 (putL zs off len x len) ∧ w.grownBy w' (some g) := by
  go_enter Tryd.func34, Tryd.ntmps34
  go_wp2_with fail
  go_loopw [7] (fun i wr => ∃ k : Nat, k ≤ len ∧ i = .int .i64 k ∧ w.grownBy wr (some g) ∧ Row wr g t .u8 (putL zs off len x k)) (fun i _ => len - (intOf i).toNat)
  case atStart => exact ⟨0, by omega, rfl, World.grownBy.refl _ _, by rw [putL_start]; exact hr⟩
  case round =>
    obtain ⟨k, hk, rfl, hg, hq⟩ := hrel
    by_cases hlt : k < len
    · have HS := Lib.hid (show Row (wr.setCell ⟨g, off + (len - 1 - k), none⟩ (.int .u8 (x / 2 ^ (8 * k) % 256))) g t .u8 (putL zs off len x (k + 1)) by
        rw [putL_step _ _ _ _ hlt]
        exact hq.set _ (by simp [Lit.wf, IntKind.min, IntKind.max, IntKind.signed, IntKind.bits]; omega))
      obtain ⟨old, hc⟩ : ∃ old, wr.cell? ⟨g, off + (len - 1 - k), none⟩ = some old := ⟨_, hq.cell (by rw [putL_length]; omega)⟩
      have hf := hq.frozen (off + (len - 1 - k))
      have hlt' : (k : Int) < (len : Int) := by omega
      have hk0 : (0 : Int) ≤ (k : Int) := by omega
      have hk7 : (k : Int) ≤ 7 := by omega
      have hn8 : (len : Int) ≤ 8 := by omega
      have e1 := Lib.hid (show (len : Int) - 1 - (k : Int) = ((len - 1 - k : Nat) : Int) by omega)
      go_wp2_with fail
      go_roundw
      case rel => exact ⟨k + 1, by omega, by go_num, hg.trans (grown_setCell _ _ _ _), HS.out⟩
      case measure => simp [intOf]; omega
    · have hkl : k = len := by omega
      subst hkl
      go_wp2_with fail
      go_end0
      exact ⟨rfl, hq, hg⟩
theorem pad_eq (n : Nat) (hn : n ≤ 17592186044416) :
    putL ((List.replicate (9 + (119 - n % 64) % 64) (0 : Int)).set 0 128) (1 + (119 - n % 64) % 64) 8 ((n : Int) * 8) 8 = padI n := by
  apply List.ext_getElem (by rw [putL_length, pad_length]; simp)
  intro i h1 h2
  rw [putL_length] at h1
  simp only [putL, List.getElem_map, List.getElem_range, padI]
  by_cases q : 1 + (119 - n % 64) % 64 ≤ i ∧ i < 1 + (119 - n % 64) % 64 + 8
  · rw [if_pos (by omega), List.getElem_cons, dif_neg (by omega), List.getElem_append_right (by simp; omega)]
    simp only [List.length_replicate, List.getElem_map, List.getElem_range]
    have e : 8 * (1 + (119 - n % 64) % 64 + 8 - 1 - i) = 56 - 8 * (i - 1 - (119 - n % 64) % 64) := by omega
    rw [e]
    congr 2
    omega
  · simp only [List.length_set, List.length_replicate] at h1
    rw [if_neg (by omega)]
    by_cases z : i = 0
    · subst z
      simp [List.getD_eq_getElem?_getD, show 0 < 9 + (119 - n % 64) % 64 by omega]
    · rw [List.getElem_cons, dif_neg z, List.getElem_append_left (by simp; omega)]
      simp only [List.getElem_replicate, List.getD_eq_getElem?_getD]
      rw [List.getElem?_set_ne (by omega)]
      simp [h1]

theorem pad_any (N : Int) (n : Nat) (w : World) (hN : (n : Int) = max N 0) (hn : n ≤ 17592186044416) :
    Calls Tryd.prog 44 #[.int .i64 N] w fun e w' => e = .returned (.slice (some ⟨w.heap.size, 0, none⟩) (padI n).length (padI n).length) ∧ Row w' w.heap.size 5 .u8 (padI n) ∧ Below w.heap.size w w' := by
  have E := Lib.hid (pad_eq n hn)
  have L := Lib.hid (pad_length n)
  have HB := Lib.hid (pad_bytes n)
  obtain ⟨z, hz⟩ : ∃ z, (119 - n % 64) % 64 = z := ⟨_, rfl⟩
  have hz64 : z < 64 := by omega
  have HZ := Lib.hid (show (119 - (n : Int) % 64) % 64 = (z : Int) by omega)
  rw [hz] at E L
  by_cases hneg : N < 0
  · have e : n = 0 := by omega
    subst e
    have hz55 : z = 55 := by omega
    subst hz55
    have hmx : ¬ (0 : Int) ≤ N := by omega
    clear hN hz HZ
    go_enter Tryd.func44, Tryd.ntmps44
    go_wp2_with (refine wpList_make_Row _ rfl _ _ 22 rfl 5 .u8 1 Tryd.underlying22 info_u8 .i64 .i64 _ _ 64 rfl rfl (by omega) (by omega) (by omega) (by omega) ?_; intro w1 hr1 hg1 hs1; obtain ⟨old, hc0⟩ : ∃ old, w1.cell? ⟨w.heap.size, 0, none⟩ = some old := ⟨_, hr1.cell (by simp)⟩; have hf0 := hr1.frozen 0)
    have hr2 := hr1.set 0 (z := 128) (by decide)
    have hb2 : Below w.heap.size w (w1.setCell ⟨w.heap.size, 0, none⟩ (.int .u8 128)) := ((Below.refl _ w).grown hg1 (Nat.le_refl _) (by simp)).setCell (Nat.le_refl _) _
    refine (put_any _ _ 8 8 _ _ _ _ (by omega) (by omega) hr2 (by simp) (by omega)).mono ?_
    rintro e w2 ⟨rfl, hr3, hg3⟩
    have E' := E.out
    simp only [Int.natCast_zero, Int.zero_mul] at E'
    rw [show (64 : Nat) = 9 + 55 from rfl, show (56 : Nat) = 1 + 55 from rfl, E'] at hr3
    have hb3 := hb2.grown hg3 (by simp [World.setCell]; omega) (fun r e => by cases e; exact Nat.le_refl _)
    clear hr2 hb2 hg3 E'
    go_wp2_with fail
    go_ret
    have e9 : 64 = (padI 0).length := L.out.symm
    refine ⟨?_, hr3, hb3⟩
    rw [← e9]
    rfl
  · have e : N = (n : Int) := by omega
    subst e
    have hnn : (n : Int) ≤ 17592186044416 := by omega
    have hn0 : (0 : Int) ≤ (n : Int) := by omega
    have hz1 : (119 - (n : Int)) % 64 = (z : Int) := by omega
    have hz2 : (119 - (n : Int) % 64) % 64 = (z : Int) := by omega
    have hzi : (z : Int) < 64 := by omega
    clear hN hz hneg HZ
    have u8w : ∀ y ∈ (List.replicate (9 + z) (0 : Int)), (Lit.int .u8 y).wf = true := fun y hy => by rw [List.eq_of_mem_replicate hy]; rfl
    go_enter Tryd.func44, Tryd.ntmps44
    go_wp2_with (refine wpList_make_Row _ rfl _ _ 22 rfl 5 .u8 1 Tryd.underlying22 info_u8 .i64 .i64 _ _ (9 + z) rfl rfl (by omega) (by omega) (by omega) (by omega) ?_; intro w1 hr1 hg1 hs1; obtain ⟨old, hc0⟩ : ∃ old, w1.cell? ⟨w.heap.size, 0, none⟩ = some old := ⟨_, hr1.cell (by simp; omega)⟩; have hf0 := hr1.frozen 0)
    have hr2 := hr1.set 0 (z := 128) (by decide)
    have hb2 : Below w.heap.size w (w1.setCell ⟨w.heap.size, 0, none⟩ (.int .u8 128)) := ((Below.refl _ w).grown hg1 (Nat.le_refl _) (by simp)).setCell (Nat.le_refl _) _
    have e8 : 9 + z - (1 + z) = 8 := by omega
    rw [e8]
    refine (put_any _ _ 8 8 _ _ _ _ (by omega) (by omega) hr2 (by simp; omega) (by omega)).mono ?_
    rintro e w2 ⟨rfl, hr3, hg3⟩
    rw [E.out] at hr3
    have hb3 := hb2.grown hg3 (by simp [World.setCell]; omega) (fun r e => by cases e; exact Nat.le_refl _)
    clear hr2 hb2 hg3 e8
    go_wp2_with fail
    go_ret
    have e9 : 9 + z = (padI n).length := L.out.symm
    refine ⟨?_, hr3, hb3⟩
    rw [← e9]
    rfl

theorem info_k : (Tryd.prog.info? 51).map (·.size) = some 64 := by kernel_rfl
theorem wf_K : ∀ z ∈ Sum.K, (Lit.int .u32 z).wf = true := by decide +kernel

set_option maxRecDepth 100000 in
theorem rwords_any (w : World) :
    Calls Tryd.prog 27 #[] w fun e w' => e = .returned (.agg (arr .u32 Sum.K)) ∧ Below w.heap.size w w' := by
  have r0 := Row.new (zs := List.replicate 64 0) (k := .u32) w 51 (fun z hz => by rw [List.eq_of_mem_replicate hz]; rfl)
  go_enter Tryd.func27, Tryd.ntmps27
  go_wp2_with (first
    | (refine wpList_build_Row rfl 51 _ rfl .u32 Sum.K (by kernel_rfl) ?_)
    | (refine wpList_store_Row rfl 51 _ _ rfl w.heap.size rfl 51 .u32 _ Sum.K rfl r0 64 info_k rfl rfl ?_))
  have r1 := r0.setRow wf_K
  refine bodyPost_ret (v := .agg (arr .u32 Sum.K)) (results_Row rfl _ _ w.heap.size _ _ _ rfl r1 64 50 Tryd.underlying51 info_k rfl) rfl ?_
  exact ⟨rfl, ((Below.refl _ w).alloc (Nat.le_refl _) _).grown (grown_setRow _ _ _) (by simp) (fun r e => by cases e; exact Nat.le_refl _)⟩
end Go.Proofs.YtbfdhbobokfbhaaDoor.Sha

