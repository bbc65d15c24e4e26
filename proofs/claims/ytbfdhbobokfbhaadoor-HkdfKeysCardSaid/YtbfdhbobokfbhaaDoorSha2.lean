/-
  The functions split and fold of package sha, each by its contract. Conditions: the numbers fit their kinds; the table of constants lies where the program's text lays it.
-/
import Derived.Test.YtbfdhbobokfbhaaDoorSha1
import Derived.Test.YtbfdhbobokfbhaaDoorArr
import Derived.IntWalk
namespace Go.Proofs.YtbfdhbobokfbhaaDoor.Sha
open Go.RowKit Go.Proofs.YtbfdhbobokfbhaaDoor.Mem Go.Proofs.YtbfdhbobokfbhaaDoor.Help Go.Proofs.YtbfdhbobokfbhaaDoor.Sum
set_option linter.unusedVariables false

theorem ix_u8_64 (bs : List Int) (i : Nat) (w : World) (hn : bs.length = 64) (hi : i < 64) : (Instr.index 44 (.agg (arr .u8 bs)) (.int .i64 (i : Int))).run Tryd.prog w = .ok (.int .u8 (bs.getD i 0)) w :=
  run_index_arr _ 5 64 .u8 bs i w Tryd.underlying44 (by kernel_rfl) (by kernel_rfl) hn hi

theorem info_64 : (Tryd.prog.info? 44).map (·.size) = some 64 := by kernel_rfl
theorem info_16 : (Tryd.prog.info? 69).map (·.size) = some 16 := by kernel_rfl
theorem info_8 : (Tryd.prog.info? 53).map (·.size) = some 8 := by kernel_rfl

/-- a word of whose bytes k - 4 * j (at most four) have come -/
def part (bs : List Int) (k j : Nat) : Int :=
  if k ≤ 4 * j then 0 else if k = 4 * j + 1 then bs.getD (4 * j) 0 else if k = 4 * j + 2 then bs.getD (4 * j) 0 * 256 + bs.getD (4 * j + 1) 0
  else if k = 4 * j + 3 then (bs.getD (4 * j) 0 * 256 + bs.getD (4 * j + 1) 0) * 256 + bs.getD (4 * j + 2) 0 else word bs j
def parts (bs : List Int) (k : Nat) : List Int := (List.range 16).map (part bs k)
theorem parts_length (bs : List Int) (k : Nat) : (parts bs k).length = 16 := by simp [parts]
theorem parts_get (bs : List Int) (k : Nat) {j : Nat} (h : j < 16) : (parts bs k).getD j 0 = part bs k j := by simp [parts, List.getD_eq_getElem?_getD, h]
theorem parts_start (bs : List Int) : parts bs 0 = [0, 0, 0, 0, 0, 0, 0, 0, 0, 0, 0, 0, 0, 0, 0, 0] := by
  unfold parts
  have : part bs 0 = fun _ => 0 := by funext j; unfold part; rw [if_pos (by omega)]
  rw [this]; rfl
theorem parts_end (bs : List Int) : parts bs 64 = words bs := by
  unfold parts words
  apply List.map_congr_left
  intro j hj
  have hj := List.mem_range.1 hj
  unfold part
  rw [if_neg (by omega), if_neg (by omega), if_neg (by omega), if_neg (by omega)]
theorem part_bound {bs : List Int} (h : Bs bs) {k j : Nat} (hk : k / 4 = j) : 0 ≤ part bs k j ∧ part bs k j < 16777216 := by
  have a := h.at_ (4 * j)
  have b := h.at_ (4 * j + 1)
  have c := h.at_ (4 * j + 2)
  unfold part
  split
  · omega
  · split
    · omega
    · split
      · omega
      · split
        · omega
        · omega
theorem part_step {bs : List Int} {k j : Nat} (hk : k / 4 = j) : part bs (k + 1) j = part bs k j * 256 + bs.getD k 0 := by
  have hc : k = 4 * j ∨ k = 4 * j + 1 ∨ k = 4 * j + 2 ∨ k = 4 * j + 3 := by omega
  unfold part word
  rcases hc with rfl | rfl | rfl | rfl
  · rw [if_neg (by omega), if_pos (by omega), if_pos (by omega)]; omega
  · rw [if_neg (by omega), if_neg (by omega), if_pos (by omega), if_neg (by omega), if_pos (by omega)]
  · rw [if_neg (by omega), if_neg (by omega), if_neg (by omega), if_pos (by omega), if_neg (by omega), if_neg (by omega), if_pos (by omega)]
  · rw [if_neg (by omega), if_neg (by omega), if_neg (by omega), if_neg (by omega), if_neg (by omega), if_neg (by omega), if_neg (by omega), if_pos (by omega)]
theorem part_other {bs : List Int} {k j : Nat} (hk : k / 4 ≠ j) : part bs (k + 1) j = part bs k j := by
  unfold part
  by_cases h1 : k < 4 * j
  · rw [if_pos (by omega), if_pos (by omega)]
  · rw [if_neg (by omega), if_neg (by omega), if_neg (by omega), if_neg (by omega), if_neg (by omega), if_neg (by omega), if_neg (by omega), if_neg (by omega)]
theorem parts_step {bs : List Int} (h : Bs bs) {k : Nat} (hk : k < 64) :
    parts bs (k + 1) = (parts bs k).set (k / 4) (bits .or .u32 (part bs k (k / 4) * 256) (bs.getD k 0)) := by
  have pb := part_bound h (rfl : k / 4 = k / 4)
  have b := h.at_ k
  have e : bits .or .u32 (part bs k (k / 4) * 256) (bs.getD k 0) = part bs (k + 1) (k / 4) := by
    rw [part_step rfl]
    have hw : ∀ n : Int, 0 ≤ n → n < 2 ^ 32 → IntKind.u32.wrap n = n := fun n h1 h2 => by rw [IntKind.wrap_u32]; omega
    rw [bits_join .u32 32 (by decide) hw 8 _ _ (by omega) (by omega) (by omega) (by omega) (by omega) (by omega)]
  rw [e]
  apply List.ext_getElem?
  intro i
  by_cases hi : i < 16
  · rw [List.getElem?_set]
    by_cases hj : k / 4 = i
    · rw [if_pos hj, if_pos (by rw [parts_length]; omega)]
      subst hj
      simp [parts, hi]
    · rw [if_neg hj]
      simp [parts, hi, part_other hj]
  · rw [List.getElem?_eq_none (by rw [parts_length]; omega), List.getElem?_eq_none (by rw [List.length_set, parts_length]; omega)]

theorem wf_u32 {x : Int} (h : R32 x) : (Lit.int .u32 x).wf = true := by
  unfold R32 at h
  simp [Lit.wf, IntKind.min, IntKind.max, IntKind.signed, IntKind.bits]
  omega
theorem r32_words {bs : List Int} (h : Bs bs) : ∀ z ∈ words bs, (Lit.int .u32 z).wf = true := fun z hz => by
  simp only [words, List.mem_map] at hz
  obtain ⟨t, _, rfl⟩ := hz
  exact wf_u32 (r32_word h t)

set_option maxRecDepth 100000 in
theorem split_any (bs : List Int) (w : World) (hb : Bs bs) (hl : bs.length = 64) :
    Calls Tryd.prog 38 #[.agg (arr .u8 bs)] w fun e w' => e = .returned (.agg (arr .u32 (words bs))) ∧ Below w.heap.size w w' := by
  have hbw : ∀ z ∈ bs, (Lit.int .u8 z).wf = true := fun z hz => by have := hb z hz; simp [Lit.wf, IntKind.min, IntKind.max, IntKind.signed, IntKind.bits]; omega
  have HL := Lib.hid hl
  clear hl
  have R0 : ∀ (w : World), Row (w.alloc (.cells (arr .u8 bs) 44)) w.heap.size 44 .u8 bs := fun w => Row.new w _ hbw
  go_enter Tryd.func38, Tryd.ntmps38
  go_wp2_with (refine wpList_load_Row rfl 44 _ rfl w.heap.size rfl 44 .u8 bs (((R0 w).alloc _).alloc _) 64 5 Tryd.underlying44 info_64 HL.out ?_)
  have hbel : Below w.heap.size w _ := (((Below.refl _ w).alloc (Nat.le_refl _) (.cells (arr .u8 bs) 44)).alloc (by simp) (.cells (arr .u32 [0, 0, 0, 0, 0, 0, 0, 0, 0, 0, 0, 0, 0, 0, 0, 0]) 69)).alloc (by simp; omega) (.cells (arr .u32 [0, 0, 0, 0, 0, 0, 0, 0, 0, 0, 0, 0, 0, 0, 0, 0]) 69)
  have hz16 : ∀ z ∈ ([0, 0, 0, 0, 0, 0, 0, 0, 0, 0, 0, 0, 0, 0, 0, 0] : List Int), (Lit.int .u32 z).wf = true := by decide
  have hr1 := (Row.new (w.alloc (.cells (arr .u8 bs) 44)) 69 hz16).alloc (.cells (arr .u32 [0, 0, 0, 0, 0, 0, 0, 0, 0, 0, 0, 0, 0, 0, 0, 0]) 69)
  have hr2 := Row.new ((w.alloc (.cells (arr .u8 bs) 44)).alloc (.cells (arr .u32 [0, 0, 0, 0, 0, 0, 0, 0, 0, 0, 0, 0, 0, 0, 0, 0]) 69)) 69 hz16
  rw [World.size_alloc] at hr1
  rw [World.size_alloc, World.size_alloc] at hr2
  go_loopw [7] (fun i wr => ∃ k : Nat, k ≤ 64 ∧ i = .int .i64 k ∧ Below w.heap.size w wr ∧ Row wr (w.heap.size + 1) 69 .u32 [0, 0, 0, 0, 0, 0, 0, 0, 0, 0, 0, 0, 0, 0, 0, 0] ∧ Row wr (w.heap.size + 1 + 1) 69 .u32 (parts bs k)) (fun i _ => 64 - (intOf i).toNat)
  case atStart => exact ⟨0, by omega, rfl, hbel, hr1, by rw [parts_start]; exact hr2⟩
  case round =>
    clear hbel hr1 hr2
    obtain ⟨k, hk, rfl, hbl, hq1, hq2⟩ := hrel
    by_cases hlt : k < 64
    · have hidx := fun W => ix_u8_64 bs k W HL.out hlt
      have hc : wr.cell? ⟨w.heap.size + 1 + 1, k / 4, none⟩ = some (.int .u32 (part bs k (k / 4))) := by
        rw [hq2.cell (by rw [parts_length]; omega), parts_get _ _ (by omega)]
      have hf := hq2.frozen (k / 4)
      have HS := Lib.hid (show Row (wr.setCell ⟨w.heap.size + 1 + 1, k / 4, none⟩ (.int .u32 (bits .or .u32 (part bs k (k / 4) * 256) (bs.getD k 0)))) (w.heap.size + 1 + 1) 69 .u32 (parts bs (k + 1)) by
        rw [parts_step hb hlt]; exact hq2.set _ (wf_bits _ _ _ _))
      have pb := part_bound hb (rfl : k / 4 = k / 4)
      have hbb := hb.at_ k
      have hlt' : (k : Int) < 64 := by omega
      have hk0 : (0 : Int) ≤ (k : Int) := by omega
      generalize part bs k (k / 4) = x at hc HS pb
      generalize bs.getD k 0 = y at hidx HS hbb
      go_wp2_with fail
      go_roundw
      case rel => exact ⟨k + 1, by omega, by go_num, hbl.setCell (by simp; omega) _, hq1.other (by simp) _, HS.out⟩
      case measure => simp [intOf]; omega
    · have hk64 : k = 64 := by omega
      subst hk64
      rw [parts_end] at hq2
      go_wp2_with (first
        | (refine wpList_load_Row rfl 69 _ rfl (w.heap.size + 1 + 1) rfl 69 .u32 (words bs) hq2 16 50 Tryd.underlying69 info_16 (words_length bs) ?_)
        | (refine wpList_store_Row rfl 69 _ _ rfl (w.heap.size + 1) rfl 69 .u32 _ (words bs) rfl hq1 16 info_16 (words_length bs) rfl ?_))
      have hq3 := hq1.setRow (r32_words hb)
      refine bodyPost_ret (v := .agg (arr .u32 (words bs))) (results_Row rfl _ _ (w.heap.size + 1) _ _ _ rfl hq3 16 50 Tryd.underlying69 info_16 (words_length bs)) rfl ?_
      exact ⟨rfl, hbl.grown (grown_setRow _ _ _) hbl.size (fun r e => by cases e; omega)⟩
end Go.Proofs.YtbfdhbobokfbhaaDoor.Sha

