/-
  The functions split and fold of package sha, each by its contract. Conditions: the numbers fit their kinds; the table of constants lies where the program's text lays it.
  A table of numbers of 32 bits, at a package-level variable's block, and what a row's condition on it gives: no program here. No conditions beyond those stated.
  The function fold of package sha by its contract. Conditions: the numbers fit their kinds; the table of constants lies where the program's text lays it.
  The functions put, Pad and Words of package sha, each by its contract. Conditions: a message of at most 2^44 bytes; the table of constants lies where the program's text lays it.
  Slices of values of one cell each (slices of slices among them): no program here. No conditions beyond those stated.
  What package sha lays behind its parts: slices.Grow and slices.Concat at lists of texts, and padded, each by its contract. Conditions: at most 2^36 parts, of at most 2^40 bytes together.
-/
import Derived.Test.YtoelgcdjhekafaaDoorB1
import Derived.IntWalk
import Derived.Test.YtoelgcdjhekafaaDoorRows
import Derived.Lib.LaidTab
import Derived.LaidMore
import Derived.Stop.Joined
import Derived.Stop.LaidErr
import Derived.StillTailTactics
import Derived.Lib.AppendZerosOnto
namespace Go.Proofs.YtoelgcdjhekafaaDoor.Sha
open Go.RowKit Go.Proofs.YtoelgcdjhekafaaDoor.Mem Go.Proofs.YtoelgcdjhekafaaDoor.Help Go.Proofs.YtoelgcdjhekafaaDoor.Sum
set_option linter.unusedVariables false

theorem ix_u8_64 (bs : List Int) (i : Nat) (w : World) (hn : bs.length = 64) (hi : i < 64) : (Instr.index 86 (.agg (arr .u8 bs)) (.int .i64 (i : Int))).run Tryd.prog w = .ok (.int .u8 (bs.getD i 0)) w :=
  run_index_arr _ 5 64 .u8 bs i w Tryd.underlying86 (by kernel_rfl) (by kernel_rfl) hn hi

theorem info_64 : (Tryd.prog.info? 86).map (·.size) = some 64 := by kernel_rfl
theorem info_16 : (Tryd.prog.info? 101).map (·.size) = some 16 := by kernel_rfl
theorem info_8 : (Tryd.prog.info? 81).map (·.size) = some 8 := by kernel_rfl

/-- a word of whose bytes k - 4 * j (at most four) have come -/
def part (bs : List Int) (k j : Nat) : Int :=
  if k ≤ 4 * j then 0 else if k = 4 * j + 1 then bs.getD (4 * j) 0 else if k = 4 * j + 2 then bs.getD (4 * j) 0 * 256 + bs.getD (4 * j + 1) 0
  else if k = 4 * j + 3 then (bs.getD (4 * j) 0 * 256 + bs.getD (4 * j + 1) 0) * 256 + bs.getD (4 * j + 2) 0 else word bs j
def parts (bs : List Int) (k : Nat) : List Int := (List.range 16).map (part bs k)
theorem parts_length (bs : List Int) (k : Nat) : (parts bs k).length = 16 := by simp [parts]
theorem parts_get (bs : List Int) (k : Nat) {j : Nat} (h : j < 16) : (parts bs k).getD j 0 = part bs k j := by simp [parts, List.getD_eq_getElem?_getD, h]
theorem parts_start (bs : List Int) : parts bs 0 = [0, 0, 0, 0, 0, 0, 0, 0, 0, 0, 0, 0, 0, 0, 0, 0] := by
  unfold parts
  have : part bs 0 = fun _ => 0 := by funext j; unfold part; rw [if_pos (by omega)]
  rw [this]; rfl
theorem parts_end (bs : List Int) : parts bs 64 = words bs := by
  unfold parts words
  apply List.map_congr_left
  intro j hj
  have hj := List.mem_range.1 hj
  unfold part
  rw [if_neg (by omega), if_neg (by omega), if_neg (by omega), if_neg (by omega)]
theorem part_bound {bs : List Int} (h : Bs bs) {k j : Nat} (hk : k / 4 = j) : 0 ≤ part bs k j ∧ part bs k j < 16777216 := by
  have a := h.at_ (4 * j)
  have b := h.at_ (4 * j + 1)
  have c := h.at_ (4 * j + 2)
  unfold part
  split
  · omega
  · split
    · omega
    · split
      · omega
      · split
        · omega
        · omega
theorem part_step {bs : List Int} {k j : Nat} (hk : k / 4 = j) : part bs (k + 1) j = part bs k j * 256 + bs.getD k 0 := by
  have hc : k = 4 * j ∨ k = 4 * j + 1 ∨ k = 4 * j + 2 ∨ k = 4 * j + 3 := by omega
  unfold part word
  rcases hc with rfl | rfl | rfl | rfl
  · rw [if_neg (by omega), if_pos (by omega), if_pos (by omega)]; omega
  · rw [if_neg (by omega), if_neg (by omega), if_pos (by omega), if_neg (by omega), if_pos (by omega)]
  · rw [if_neg (by omega), if_neg (by omega), if_neg (by omega), if_pos (by omega), if_neg (by omega), if_neg (by omega), if_pos (by omega)]
  · rw [if_neg (by omega), if_neg (by omega), if_neg (by omega), if_neg (by omega), if_neg (by omega), if_neg (by omega), if_neg (by omega), if_pos (by omega)]
theorem part_other {bs : List Int} {k j : Nat} (hk : k / 4 ≠ j) : part bs (k + 1) j = part bs k j := by
  unfold part
  by_cases h1 : k < 4 * j
  · rw [if_pos (by omega), if_pos (by omega)]
  · rw [if_neg (by omega), if_neg (by omega), if_neg (by omega), if_neg (by omega), if_neg (by omega), if_neg (by omega), if_neg (by omega), if_neg (by omega)]
theorem parts_step {bs : List Int} (h : Bs bs) {k : Nat} (hk : k < 64) :
    parts bs (k + 1) = (parts bs k).set (k / 4) (bits .or .u32 (part bs k (k / 4) * 256) (bs.getD k 0)) := by
  have pb := part_bound h (rfl : k / 4 = k / 4)
  have b := h.at_ k
  have e : bits .or .u32 (part bs k (k / 4) * 256) (bs.getD k 0) = part bs (k + 1) (k / 4) := by
    rw [part_step rfl]
    have hw : ∀ n : Int, 0 ≤ n → n < 2 ^ 32 → IntKind.u32.wrap n = n := fun n h1 h2 => by rw [IntKind.wrap_u32]; omega
    rw [bits_join .u32 32 (by decide) hw 8 _ _ (by omega) (by omega) (by omega) (by omega) (by omega) (by omega)]
  rw [e]
  apply List.ext_getElem?
  intro i
  by_cases hi : i < 16
  · rw [List.getElem?_set]
    by_cases hj : k / 4 = i
    · rw [if_pos hj, if_pos (by rw [parts_length]; omega)]
      subst hj
      simp [parts, hi]
    · rw [if_neg hj]
      simp [parts, hi, part_other hj]
  · rw [List.getElem?_eq_none (by rw [parts_length]; omega), List.getElem?_eq_none (by rw [List.length_set, parts_length]; omega)]

theorem wf_u32 {x : Int} (h : R32 x) : (Lit.int .u32 x).wf = true := by
  unfold R32 at h
  simp [Lit.wf, IntKind.min, IntKind.max, IntKind.signed, IntKind.bits]
  omega
theorem r32_words {bs : List Int} (h : Bs bs) : ∀ z ∈ words bs, (Lit.int .u32 z).wf = true := fun z hz => by
  simp only [words, List.mem_map] at hz
  obtain ⟨t, _, rfl⟩ := hz
  exact wf_u32 (r32_word h t)

set_option maxRecDepth 100000 in
theorem split_any (bs : List Int) (w : World) (hb : Bs bs) (hl : bs.length = 64) :
    Calls Tryd.prog 72 #[.agg (arr .u8 bs)] w fun e w' => e = .returned (.agg (arr .u32 (words bs))) ∧ Below w.heap.size w w' := by
  have hbw : ∀ z ∈ bs, (Lit.int .u8 z).wf = true := fun z hz => by have := hb z hz; simp [Lit.wf, IntKind.min, IntKind.max, IntKind.signed, IntKind.bits]; omega
  have HL := Lib.hid hl
  clear hl
  have R0 : ∀ (w : World), Row (w.alloc (.cells (arr .u8 bs) 86)) w.heap.size 86 .u8 bs := fun w => Row.new w _ hbw
  go_enter Tryd.func72, Tryd.ntmps72
  go_wp2_with (refine wpList_load_Row rfl 86 _ rfl w.heap.size rfl 86 .u8 bs (((R0 w).alloc _).alloc _) 64 5 Tryd.underlying86 info_64 HL.out ?_)
  have hbel : Below w.heap.size w _ := (((Below.refl _ w).alloc (Nat.le_refl _) (.cells (arr .u8 bs) 86)).alloc (by simp) (.cells (arr .u32 [0, 0, 0, 0, 0, 0, 0, 0, 0, 0, 0, 0, 0, 0, 0, 0]) 101)).alloc (by simp; omega) (.cells (arr .u32 [0, 0, 0, 0, 0, 0, 0, 0, 0, 0, 0, 0, 0, 0, 0, 0]) 101)
  have hz16 : ∀ z ∈ ([0, 0, 0, 0, 0, 0, 0, 0, 0, 0, 0, 0, 0, 0, 0, 0] : List Int), (Lit.int .u32 z).wf = true := by decide
  have hr1 := (Row.new (w.alloc (.cells (arr .u8 bs) 86)) 101 hz16).alloc (.cells (arr .u32 [0, 0, 0, 0, 0, 0, 0, 0, 0, 0, 0, 0, 0, 0, 0, 0]) 101)
  have hr2 := Row.new ((w.alloc (.cells (arr .u8 bs) 86)).alloc (.cells (arr .u32 [0, 0, 0, 0, 0, 0, 0, 0, 0, 0, 0, 0, 0, 0, 0, 0]) 101)) 101 hz16
  rw [World.size_alloc] at hr1
  rw [World.size_alloc, World.size_alloc] at hr2
  go_loopw [7] (fun i wr => ∃ k : Nat, k ≤ 64 ∧ i = .int .i64 k ∧ Below w.heap.size w wr ∧ Row wr (w.heap.size + 1) 101 .u32 [0, 0, 0, 0, 0, 0, 0, 0, 0, 0, 0, 0, 0, 0, 0, 0] ∧ Row wr (w.heap.size + 1 + 1) 101 .u32 (parts bs k)) (fun i _ => 64 - (intOf i).toNat)
  case atStart => exact ⟨0, by omega, rfl, hbel, hr1, by rw [parts_start]; exact hr2⟩
  case round =>
    clear hbel hr1 hr2
    obtain ⟨k, hk, rfl, hbl, hq1, hq2⟩ := hrel
    by_cases hlt : k < 64
    · have hidx := fun W => ix_u8_64 bs k W HL.out hlt
      have hc : wr.cell? ⟨w.heap.size + 1 + 1, k / 4, none⟩ = some (.int .u32 (part bs k (k / 4))) := by
        rw [hq2.cell (by rw [parts_length]; omega), parts_get _ _ (by omega)]
      have hf := hq2.frozen (k / 4)
      have HS := Lib.hid (show Row (wr.setCell ⟨w.heap.size + 1 + 1, k / 4, none⟩ (.int .u32 (bits .or .u32 (part bs k (k / 4) * 256) (bs.getD k 0)))) (w.heap.size + 1 + 1) 101 .u32 (parts bs (k + 1)) by
        rw [parts_step hb hlt]; exact hq2.set _ (wf_bits _ _ _ _))
      have pb := part_bound hb (rfl : k / 4 = k / 4)
      have hbb := hb.at_ k
      have hlt' : (k : Int) < 64 := by omega
      have hk0 : (0 : Int) ≤ (k : Int) := by omega
      generalize part bs k (k / 4) = x at hc HS pb
      generalize bs.getD k 0 = y at hidx HS hbb
      go_wp2_with fail
      go_roundw
      case rel => exact ⟨k + 1, by omega, by go_num, hbl.setCell (by simp; omega) _, hq1.other (by simp) _, HS.out⟩
      case measure => simp [intOf]; omega
    · have hk64 : k = 64 := by omega
      subst hk64
      rw [parts_end] at hq2
      go_wp2_with (first
        | (refine wpList_load_Row rfl 101 _ rfl (w.heap.size + 1 + 1) rfl 101 .u32 (words bs) hq2 16 38 Tryd.underlying101 info_16 (words_length bs) ?_)
        | (refine wpList_store_Row rfl 101 _ _ rfl (w.heap.size + 1) rfl 101 .u32 _ (words bs) rfl hq1 16 info_16 (words_length bs) rfl ?_))
      have hq3 := hq1.setRow (r32_words hb)
      refine bodyPost_ret (v := .agg (arr .u32 (words bs))) (results_Row rfl _ _ (w.heap.size + 1) _ _ _ rfl hq3 16 38 Tryd.underlying101 info_16 (words_length bs)) rfl ?_
      exact ⟨rfl, hbl.grown (grown_setRow _ _ _) hbl.size (fun r e => by cases e; omega)⟩
end Go.Proofs.YtoelgcdjhekafaaDoor.Sha
namespace Go.Proofs.YtoelgcdjhekafaaDoor.Sha
open Go.RowKit Go.Proofs.YtoelgcdjhekafaaDoor.Mem
set_option linter.unusedVariables false

/-- a table of numbers of 32 bits, at a variable's block -/
def Tab (w : World) (g : Nat) (zs : List Int) : Prop := ∃ t fr, w.heap[g]? = some (.cells (arr .u32 zs) t fr)
section
variable {w w' : World} {g : Nat} {zs : List Int}
theorem Tab.lt (h : Tab w g zs) : g < w.heap.size := by obtain ⟨t, fr, h⟩ := h; exact (Array.getElem?_eq_some_iff.1 h).1
theorem Tab.below {B : Nat} (h : Tab w g zs) (hb : Below B w w') (hg : g < B) : Tab w' g zs := by obtain ⟨t, fr, h⟩ := h; exact ⟨t, fr, (hb.block g hg).trans h⟩
theorem Tab.cell (h : Tab w g zs) {i : Nat} (hi : i < zs.length) : w.cell? ⟨g, i, none⟩ = some (.int .u32 (zs.getD i 0)) := by
  obtain ⟨t, fr, h⟩ := h
  rw [cell_of_row w g i _ t fr h, arr_get _ _ hi]
end

theorem tab_of_var {w : World} {name : String} {g : Nat} {zs : List Int} (hg : Tryd.prog.globalNamed name = some g) (h : Lib.TabIs Tryd.prog w name .u32 zs) : Tab w g zs := by
  unfold Lib.TabIs World.var? at h
  rw [hg, Option.bind_some] at h
  cases hb : w.heap[g]? with
  | none => rw [hb] at h; cases h
  | some o =>
    rw [hb] at h
    cases o with
    | cells cs t fr => simp only [Option.some.injEq] at h; exact ⟨t, fr, by rw [hb, h]; rfl⟩
    | _ => cases h
end Go.Proofs.YtoelgcdjhekafaaDoor.Sha
namespace Go.Proofs.YtoelgcdjhekafaaDoor.Sha
open Go.RowKit Go.Proofs.YtoelgcdjhekafaaDoor.Mem Go.Proofs.YtoelgcdjhekafaaDoor.Help Go.Proofs.YtoelgcdjhekafaaDoor.Sum
set_option linter.unusedVariables false

/-- the places of the rolling window when k rounds are over -/
def Rolled (bs : List Int) (k : Nat) (nx : List Int) : Prop := nx.length = 16 ∧ ∀ j, min k 48 ≤ j → j < min k 48 + 16 → nx.getD (j % 16) 0 = (W bs).getD j 0

theorem Rolled.start (bs : List Int) : Rolled bs 0 (words bs) := ⟨words_length bs, fun j _ h => by
  rw [W_word bs (by omega), Nat.mod_eq_of_lt (by omega)]
  simp [words, List.getD_eq_getElem?_getD, show j < 16 by omega]⟩
theorem Rolled.cur {bs : List Int} {k : Nat} {nx : List Int} (h : Rolled bs k nx) (hk : k < 64) : nx.getD (k % 16) 0 = (W bs).getD k 0 := h.2 k (by omega) (by omega)
theorem Rolled.late {bs : List Int} {k : Nat} {nx : List Int} (h : Rolled bs k nx) (hk : 48 ≤ k) : Rolled bs (k + 1) nx := ⟨h.1, fun j h1 h2 => h.2 j (by omega) (by omega)⟩
theorem Rolled.step {bs : List Int} {k : Nat} {nx : List Int} (h : Rolled bs k nx) (hk : k < 48) :
    Rolled bs (k + 1) (nx.set (k % 16) (addI (nx.getD (k % 16) 0) (addI (addI (smallI (nx.getD ((k % 16 + 1) % 16) 0) 7 18 3) (nx.getD ((k % 16 + 9) % 16) 0)) (smallI (nx.getD ((k % 16 + 14) % 16) 0) 17 19 10)))) := by
  have e0 := h.2 k (by omega) (by omega)
  have e1 := h.2 (k + 1) (by omega) (by omega)
  have e9 := h.2 (k + 9) (by omega) (by omega)
  have e14 := h.2 (k + 14) (by omega) (by omega)
  have m1 : (k % 16 + 1) % 16 = (k + 1) % 16 := by omega
  have m9 : (k % 16 + 9) % 16 = (k + 9) % 16 := by omega
  have m14 : (k % 16 + 14) % 16 = (k + 14) % 16 := by omega
  rw [m1, m9, m14, e0, e1, e9, e14, roll]
  have hn := W_next bs (t := k + 16) (by omega) (by omega)
  simp only [show k + 16 - 2 = k + 14 by omega, show k + 16 - 7 = k + 9 by omega, show k + 16 - 15 = k + 1 by omega, show k + 16 - 16 = k by omega] at hn
  rw [← hn]
  refine ⟨by rw [List.length_set]; exact h.1, fun j h1 h2 => ?_⟩
  by_cases hj : j = k + 16
  · subst hj
    have : (k + 16) % 16 = k % 16 := by omega
    rw [this]
    simp [List.getD_eq_getElem?_getD, h.1, show k % 16 < 16 by omega]
  · rw [← h.2 j (by omega) (by omega)]
    have : k % 16 ≠ j % 16 := by omega
    simp [List.getD_eq_getElem?_getD, this]

theorem row_still {w w' : World} (h : Still w w') {g : Nat} {t : TypeId} {k : IntKind} {zs : List Int} (hr : Row w g t k zs) : Row w' g t k zs := ⟨hr.1, by rw [h.heap]; exact hr.2⟩
theorem tab_still {w w' : World} (h : Still w w') {g : Nat} {zs : List Int} (hr : Tab w g zs) : Tab w' g zs := by unfold Tab; rw [h.heap]; exact hr
theorem tab_set {w : World} {g : Nat} {zs : List Int} (hr : Tab w g zs) {p : Addr} (hp : g ≠ p.block) (v : Value) : Tab (w.setCell p v) g zs := by
  obtain ⟨t, fr, h⟩ := hr
  exact ⟨t, fr, (heap_setCell_other w p g v hp).trans h⟩

theorem sum_e (x3 x7 A C kk ww : Int) : addI x3 (addI (addI (addI (addI x7 A) C) kk) ww) = (x3 + (x7 + A + C + kk + ww)) % 4294967296 := by unfold addI; omega
theorem sum_a (x7 A C kk ww s0 mj : Int) : addI (addI (addI (addI (addI x7 A) C) kk) ww) (addI s0 mj) = (x7 + A + C + kk + ww + (s0 + mj)) % 4294967296 := by unfold addI; omega

/-- the first k places summed -/
def sumPart (h v : List Int) (k : Nat) : List Int := (List.range 8).map fun i => if i < k then addI (h.getD i 0) (v.getD i 0) else h.getD i 0
theorem sumPart_length (h v : List Int) (k : Nat) : (sumPart h v k).length = 8 := by simp [sumPart]
theorem sumPart_get (h v : List Int) {k i : Nat} (hi : i < 8) : (sumPart h v k).getD i 0 = if i < k then addI (h.getD i 0) (v.getD i 0) else h.getD i 0 := by simp [sumPart, List.getD_eq_getElem?_getD, hi]
theorem sumPart_end (h v : List Int) : sumPart h v 8 = sumUp h v := by
  unfold sumPart sumUp
  apply List.map_congr_left
  intro i hi
  rw [if_pos (List.mem_range.1 hi)]
theorem sumPart_start {h : List Int} (v : List Int) (hl : h.length = 8) : sumPart h v 0 = h := by
  apply List.ext_getElem (by rw [sumPart_length, hl])
  intro i h1 h2
  simp [sumPart, List.getD_eq_getElem?_getD, h2]
theorem sumPart_step (h v : List Int) {k : Nat} (hk : k < 8) : sumPart h v (k + 1) = (sumPart h v k).set k (addI (h.getD k 0) (v.getD k 0)) := by
  apply List.ext_getElem (by rw [List.length_set, sumPart_length, sumPart_length])
  intro i h1 h2
  rw [List.getElem_set]
  by_cases e : k = i
  · subst e
    simp [sumPart]
  · rw [if_neg e]
    simp only [sumPart, List.getElem_map, List.getElem_range]
    by_cases q : i < k
    · rw [if_pos (by omega), if_pos q]
    · rw [if_neg (by omega), if_neg q]

theorem still_of {P : Program} {f : FuncId} {args : Array Value} {w : World} {v : Value} (h : Calls P f args w fun e w' => e = .returned v ∧ w = w') : Calls P f args w fun e w' => e = .returned v ∧ w' = w :=
  h.mono fun _ _ ⟨a, b⟩ => ⟨a, b.symm⟩

set_option maxRecDepth 100000 in
set_option maxHeartbeats 1000000 in
theorem fold_any (v bs : List Int) (w : World) (hv : Eight v) (hb : Bs bs) (hl : bs.length = 64) (hT : Tab w 4 Sum.K) :
    Calls Tryd.prog 67 #[.agg (arr .u32 v), .agg (arr .u8 bs)] w fun e w' => e = .returned (.agg (arr .u32 (Sum.block v bs))) ∧ Below w.heap.size w w' := by
  have hbw : ∀ z ∈ bs, (Lit.int .u8 z).wf = true := fun z hz => by have := hb z hz; simp [Lit.wf, IntKind.min, IntKind.max, IntKind.signed, IntKind.bits]; omega
  have hvw : ∀ z ∈ v, (Lit.int .u32 z).wf = true := fun z hz => wf_u32 (hv.2 z hz)
  have hz8 : ∀ z ∈ ([0, 0, 0, 0, 0, 0, 0, 0] : List Int), (Lit.int .u32 z).wf = true := by decide
  have HL := Lib.hid hl
  have HV := Lib.hid hv.1
  clear hl
  have r0 := ((Row.new w 81 hvw).alloc (.cells (arr .u8 bs) 86)).alloc (.cells (arr .u32 [0, 0, 0, 0, 0, 0, 0, 0]) 81)
  have r1 := (Row.new (w.alloc (.cells (arr .u32 v) 81)) 86 hbw).alloc (.cells (arr .u32 [0, 0, 0, 0, 0, 0, 0, 0]) 81)
  have r2 := Row.new ((w.alloc (.cells (arr .u32 v) 81)).alloc (.cells (arr .u8 bs) 86)) 81 hz8
  have hb0 : Below w.heap.size w (((w.alloc (.cells (arr .u32 v) 81)).alloc (.cells (arr .u8 bs) 86)).alloc (.cells (arr .u32 [0, 0, 0, 0, 0, 0, 0, 0]) 81)) :=
    (((Below.refl _ w).alloc (Nat.le_refl _) _).alloc (by simp) _).alloc (by simp; omega) _
  rw [World.size_alloc] at r1
  rw [World.size_alloc, World.size_alloc] at r2
  go_enter Tryd.func67, Tryd.ntmps67
  go_wp2
  go_step3
  go_wp2_with (refine wpList_load_Row rfl 86 _ rfl (w.heap.size + 1) rfl 86 .u8 bs r1 64 5 Tryd.underlying86 info_64 HL.out ?_)
  refine (split_any bs _ hb HL.out).mono ?_
  rintro e w4 ⟨rfl, hb4⟩
  have k0 := r0.below hb4 (by simp; omega)
  have k1 := r1.below hb4 (by simp)
  have k2 := r2.below hb4 (by simp)
  have b4 := hb0.trans (hb4.mono (by simp; omega))
  have s4 := hb4.size
  simp only [World.size_alloc] at s4
  have T4 : Tab w4 4 Sum.K := hT.below b4 hT.lt
  have G := hT.lt
  clear r0 r1 r2 hb0 hb4 hT hbw hvw
  have n5 := Row.new w4 101 (show ∀ z ∈ ([0, 0, 0, 0, 0, 0, 0, 0, 0, 0, 0, 0, 0, 0, 0, 0] : List Int), (Lit.int .u32 z).wf = true by decide)
  go_wp2_with (refine wpList_store_Row rfl 101 _ _ rfl w4.heap.size rfl 101 .u32 _ (words bs) rfl n5 16 info_16 (words_length bs) rfl ?_)
  have m5 := n5.setRow (r32_words hb)
  have m0 := (k0.alloc (.cells (arr .u32 [0, 0, 0, 0, 0, 0, 0, 0, 0, 0, 0, 0, 0, 0, 0, 0]) 101)).setRow_other (g' := w4.heap.size) (by omega) (arr .u32 (words bs))
  have m2 := (k2.alloc (.cells (arr .u32 [0, 0, 0, 0, 0, 0, 0, 0, 0, 0, 0, 0, 0, 0, 0, 0]) 101)).setRow_other (g' := w4.heap.size) (by omega) (arr .u32 (words bs))
  have b5 : Below w.heap.size w ((w4.alloc (.cells (arr .u32 [0, 0, 0, 0, 0, 0, 0, 0, 0, 0, 0, 0, 0, 0, 0, 0]) 101)).setRow w4.heap.size (arr .u32 (words bs))) := (b4.alloc (by omega) _).grown (grown_setRow _ _ _) (by simp; omega) (fun r e => by cases e; omega)
  have T5 : Tab ((w4.alloc (.cells (arr .u32 [0, 0, 0, 0, 0, 0, 0, 0, 0, 0, 0, 0, 0, 0, 0, 0]) 101)).setRow w4.heap.size (arr .u32 (words bs))) 4 Sum.K :=
    T4.below (B := w4.heap.size) (((Below.refl _ _).alloc (Nat.le_refl _) _).grown (grown_setRow _ _ _) (by simp) (fun r e => by cases e; omega)) T4.lt
  clear k0 k1 k2 n5 b4 T4
  obtain ⟨a, b, c, d, e, f, g, h, rfl, ra, rb, rc, rd, re, rf, rg, rh⟩ := hv.out
  have c0 := m0.cell (i := 0) (by simp)
  have c1 := m0.cell (i := 1) (by simp)
  have c2 := m0.cell (i := 2) (by simp)
  have c3 := m0.cell (i := 3) (by simp)
  have c4 := m0.cell (i := 4) (by simp)
  have c5 := m0.cell (i := 5) (by simp)
  have c6 := m0.cell (i := 6) (by simp)
  have c7 := m0.cell (i := 7) (by simp)
  simp only [List.getD_eq_getElem?_getD, List.getElem?_cons_zero, List.getElem?_cons_succ, Option.getD_some] at c0 c1 c2 c3 c4 c5 c6 c7
  obtain ⟨w5, hw5⟩ : ∃ w5, (w4.alloc (.cells (arr .u32 [0, 0, 0, 0, 0, 0, 0, 0, 0, 0, 0, 0, 0, 0, 0, 0]) 101)).setRow w4.heap.size (arr .u32 (words bs)) = w5 := ⟨_, rfl⟩
  have hww : (w4.alloc (Obj.cells #[Value.int IntKind.u32 0, Value.int IntKind.u32 0, Value.int IntKind.u32 0, Value.int IntKind.u32 0, Value.int IntKind.u32 0, Value.int IntKind.u32 0, Value.int IntKind.u32 0, Value.int IntKind.u32 0, Value.int IntKind.u32 0, Value.int IntKind.u32 0, Value.int IntKind.u32 0, Value.int IntKind.u32 0, Value.int IntKind.u32 0, Value.int IntKind.u32 0, Value.int IntKind.u32 0, Value.int IntKind.u32 0] 101)).setRow w4.heap.size (arr .u32 (words bs)) = w5 := hw5
  rw [hw5] at m5 m0 m2 b5 T5 c0 c1 c2 c3 c4 c5 c6 c7
  rw [hww]
  clear hw5 hww
  go_quiet (fail)
  go_wp2_with fail
  go_quiet (fail)
  go_wp2_with fail
  go_step3
  go_wp2_with fail
  generalize hw6 : (w5.drewN _).drewN _ = w6
  have m0 : Row w6 w.heap.size 81 .u32 [a, b, c, d, e, f, g, h] := by rw [← hw6]; exact m0
  have m2 : Row w6 (w.heap.size + 1 + 1) 81 .u32 [0, 0, 0, 0, 0, 0, 0, 0] := by rw [← hw6]; exact m2
  have m5 : Row w6 w4.heap.size 101 .u32 (words bs) := by rw [← hw6]; exact m5
  have b6 : Below w.heap.size w w6 := by rw [← hw6]; exact below_drewN (below_drewN b5 _) _
  have T6 : Tab w6 4 Sum.K := by rw [← hw6]; exact T5
  clear hw6 c0 c1 c2 c3 c4 c5 c6 c7 b5 T5
  generalize w4.heap.size = p5 at m5 s4 ⊢
  have hv8 := Lib.hid hv
  have RS := Lib.hid (Rolled.start bs)
  clear hv
  go_loopw [6, 7, 8, 9, 10, 11, 12, 13, 40] (fun a' b' c' d' e' f' g' h' i wr => ∃ k : Nat, k ≤ 64 ∧ i = .int .i64 k ∧ Below w.heap.size w wr ∧ Tab wr 4 Sum.K ∧ Row wr w.heap.size 81 .u32 [a, b, c, d, e, f, g, h] ∧
    Row wr (w.heap.size + 1 + 1) 81 .u32 [0, 0, 0, 0, 0, 0, 0, 0] ∧ (∃ nx, Row wr p5 101 .u32 nx ∧ Hid (Rolled bs k nx)) ∧
    ∃ x0 x1 x2 x3 x4 x5 x6 x7 : Int, Hid (Sum.rounds (Sum.W bs) k [a, b, c, d, e, f, g, h] = [x0, x1, x2, x3, x4, x5, x6, x7]) ∧ a' = .int .u32 x0 ∧ b' = .int .u32 x1 ∧ c' = .int .u32 x2 ∧ d' = .int .u32 x3 ∧ e' = .int .u32 x4 ∧ f' = .int .u32 x5 ∧ g' = .int .u32 x6 ∧ h' = .int .u32 x7)
    (fun _ _ _ _ _ _ _ _ i _ => 64 - (intOf i).toNat)
  case atStart => exact ⟨0, by omega, rfl, b6, T6, m0, m2, ⟨_, m5, RS⟩, _, _, _, _, _, _, _, _, Lib.hid rfl, rfl, rfl, rfl, rfl, rfl, rfl, rfl, rfl⟩
  case round =>
    clear m0 m2 m5 b6 T6 RS
    obtain ⟨k, hk, rfl, hbl, hT, q0, q2, ⟨nx, q5, hro⟩, x0, x1, x2, x3, x4, x5, x6, x7, hx, rfl, rfl, rfl, rfl, rfl, rfl, rfl, rfl⟩ := hrel
    have h8 := hv8.out.rounds (Sum.W bs) k
    rw [hx.out] at h8
    have rx : ∀ z ∈ [x0, x1, x2, x3, x4, x5, x6, x7], R32 z := h8.2
    simp only [List.mem_cons, List.mem_nil_iff, or_false, forall_eq_or_imp, forall_eq] at rx
    obtain ⟨y0, y1, y2, y3, y4, y5, y6, y7⟩ := rx
    clear h8
    by_cases hlt : k < 64
    · have HR := Lib.hid (show Sum.rounds (Sum.W bs) (k + 1) [a, b, c, d, e, f, g, h] = Sum.round (Sum.K.getD k 0) ((Sum.W bs).getD k 0) [x0, x1, x2, x3, x4, x5, x6, x7] by rw [Sum.rounds, hx.out])
      have rK := r32_K k
      have rW := r32_W hb k
      have hK := hT.cell (i := k) (by rw [K_length]; exact hlt)
      have hN := q5.cell (i := k % 16) (by rw [hro.out.1]; omega)
      rw [hro.out.cur hlt] at hN
      have hlt' : (k : Int) < 64 := by omega
      have hk0 : (0 : Int) ≤ (k : Int) := by omega
      generalize Sum.K.getD k 0 = kk at hK rK HR
      have hm : k % 16 < 16 := Nat.mod_lt _ (by omega)
      have EM := Lib.hid (show (k : Int) % 16 = ((k % 16 : Nat) : Int) by omega)
      by_cases h48 : k < 48
      · have HS := Lib.hid (hro.out.step h48)
        rw [hro.out.cur hlt] at HS
        have g1 := q5.cell (i := (k % 16 + 1) % 16) (by rw [hro.out.1]; omega)
        have g9 := q5.cell (i := (k % 16 + 9) % 16) (by rw [hro.out.1]; omega)
        have g14 := q5.cell (i := (k % 16 + 14) % 16) (by rw [hro.out.1]; omega)
        have fr := q5.frozen (k % 16)
        have z1 : R32 (nx.getD ((k % 16 + 1) % 16) 0) := by
          rw [show (k % 16 + 1) % 16 = (k + 1) % 16 by omega, hro.out.2 (k + 1) (by omega) (by omega)]; exact r32_W hb _
        have z14 : R32 (nx.getD ((k % 16 + 14) % 16) 0) := by
          rw [show (k % 16 + 14) % 16 = (k + 14) % 16 by omega, hro.out.2 (k + 14) (by omega) (by omega)]; exact r32_W hb _
        generalize (Sum.W bs).getD k 0 = ww at hN rW HR HS
        generalize nx.getD ((k % 16 + 1) % 16) 0 = e1 at g1 z1 HS
        generalize nx.getD ((k % 16 + 9) % 16) 0 = e9 at g9 HS
        generalize nx.getD ((k % 16 + 14) % 16) 0 = e14 at g14 z14 HS
        have h48' : ¬ (48 : Int) ≤ (k : Int) := by omega
        go_wp2_with fail
        go_quiet ((first | (go_at_call 73; exact quiet_same (turned_any x4 6 11 25 _ y4 (by omega) (by omega) (by omega))) | (go_at_call 74; exact quiet_same (choice_any x4 x5 x6 _))))
        go_wp2_with (first
          | (go_at_call 73; refine (turned_any x0 2 13 22 _ y0 (by omega) (by omega) (by omega)).mono ?_; rintro e w' ⟨rfl, rfl⟩)
          | (go_at_call 75; refine (majority_any x0 x1 x2 _).mono ?_; rintro e w' ⟨rfl, rfl⟩))
        rw [EM.out]
        generalize k % 16 = m at hN g1 g9 g14 fr hm HS
        go_quiet (fail)
        go_wp2_with fail
        generalize hw7 : (wr.drewN _).drewN _ = w7
        have hst : Still wr w7 := by rw [← hw7]; exact ((Still.refl _).drewN _).drewN _
        have g0' := (hst.cell _).trans hN
        have g9' := (hst.cell _).trans g9
        have fr' : w7.frozen? ⟨p5, m, none⟩ = false := by rw [← hw7]; exact fr
        clear hw7
        have hmi : (m : Int) < 16 := by omega
        have hm0 : (0 : Int) ≤ (m : Int) := by omega
        have w9 : (IntKind.i64.wrap ((m : Int) + 9)).tmod 16 = (((m + 9) % 16 : Nat) : Int) := by
          rw [IntWalk.i64_in _ (by omega), Int.tmod_eq_emod_of_nonneg (by omega)]; omega
        have hj : (m + 9) % 16 < 16 := by omega
        generalize (m + 9) % 16 = j at g9' HS w9 hj
        have hji : (j : Int) < 16 := by omega
        have hj0 : (0 : Int) ≤ (j : Int) := by omega
        have u1 : ∀ x y : Int, IntKind.u32.wrap (x + y) = addI x y := fun x y => by rw [IntKind.wrap_u32]; rfl
        go_still_tail 16, (by kernel_rfl)
        still_call (still_of (shifted_any e1 7 18 3 _ z1 (by omega) (by omega) (by omega)))
        repeat still_step
        still_call (still_of (shifted_any e14 17 19 10 _ z14 (by omega) (by omega) (by omega)))
        repeat still_step
        refine wpStill_nil ?_
        change wpList _ _ _ _ _ w7.drew
        clear u1 w9
        have hbl7 := hbl.trans (hst.below w.heap.size)
        have T7 := tab_still hst hT
        have q07 := row_still hst q0
        have q27 := row_still hst q2
        have q57 := row_still hst q5
        go_wp2_with fail
        go_roundw
        case rel =>
          refine ⟨k + 1, by omega, by go_num, (hbl7.setCell (by simp; omega) _).drew, tab_set T7 (by simp; omega) _, q07.other (by simp; omega) _, q27.other (by simp; omega) _, ⟨_, q57.set m (wf_u32 (r32_add _ _)), HS⟩, _, _, _, _, _, _, _, _, Lib.hid ?_, rfl, rfl, rfl, rfl, rfl, rfl, rfl, rfl⟩
          rw [HR.out]
          simp only [Sum.round, sum_e, sum_a]
        case measure => simp [intOf]; omega
      · have HS := Lib.hid (hro.out.late (k := k) (by omega))
        generalize (Sum.W bs).getD k 0 = ww at hN rW HR
        have h48' : (48 : Int) ≤ (k : Int) := by omega
        go_wp2_with fail
        go_quiet ((first | (go_at_call 73; exact quiet_same (turned_any x4 6 11 25 _ y4 (by omega) (by omega) (by omega))) | (go_at_call 74; exact quiet_same (choice_any x4 x5 x6 _))))
        go_wp2_with (first
          | (go_at_call 73; refine (turned_any x0 2 13 22 _ y0 (by omega) (by omega) (by omega)).mono ?_; rintro e w' ⟨rfl, rfl⟩)
          | (go_at_call 75; refine (majority_any x0 x1 x2 _).mono ?_; rintro e w' ⟨rfl, rfl⟩))
        go_roundw
        case rel =>
          refine ⟨k + 1, by omega, by go_num, below_drewN hbl _, hT, q0, q2, ⟨_, q5, HS⟩, _, _, _, _, _, _, _, _, Lib.hid ?_, rfl, rfl, rfl, rfl, rfl, rfl, rfl, rfl⟩
          rw [HR.out]
          simp only [Sum.round, sum_e, sum_a, Int.emod_add_emod, Int.add_emod_emod]
        case measure => simp [intOf]; omega
    · have hk64 : k = 64 := by omega
      subst hk64
      clear hro q5
      go_wp2_with fail
      have HB := Lib.hid (show sumUp [a, b, c, d, e, f, g, h] [x0, x1, x2, x3, x4, x5, x6, x7] = Sum.block [a, b, c, d, e, f, g, h] bs by unfold Sum.block; rw [hx.out])
      have Q0 : Row wr w.heap.size 81 .u32 (sumPart [a, b, c, d, e, f, g, h] [x0, x1, x2, x3, x4, x5, x6, x7] 0) := by rw [sumPart_start _ rfl]; exact q0
      clear q0 hx hv8 hT y0 y1 y2 y3 y4 y5 y6 y7
      go_loopw [119] (fun i ws => ∃ k : Nat, k ≤ 8 ∧ i = .int .i64 k ∧ Below w.heap.size w ws ∧ Row ws w.heap.size 81 .u32 (sumPart [a, b, c, d, e, f, g, h] [x0, x1, x2, x3, x4, x5, x6, x7] k) ∧
        Row ws (w.heap.size + 1 + 1) 81 .u32 [0, 0, 0, 0, 0, 0, 0, 0]) (fun i _ => 8 - (intOf i).toNat)
      case atStart => exact ⟨0, by omega, rfl, hbl, Q0, q2⟩
      case round =>
        clear Q0 q2 hbl
        obtain ⟨k, hk, rfl, hbl, q0, q2⟩ := hrel
        by_cases hlt : k < 8
        · have hidx : ∀ W, (Instr.index 81 (.agg #[.int .u32 x0, .int .u32 x1, .int .u32 x2, .int .u32 x3, .int .u32 x4, .int .u32 x5, .int .u32 x6, .int .u32 x7]) (.int .i64 (k : Int))).run Tryd.prog W = .ok (.int .u32 ([x0, x1, x2, x3, x4, x5, x6, x7].getD k 0)) W :=
            fun W => run_index_arr _ 38 8 .u32 [x0, x1, x2, x3, x4, x5, x6, x7] k W Tryd.underlying81 (by kernel_rfl) (by kernel_rfl) rfl hlt
          have hc := q0.cell (i := k) (by rw [sumPart_length]; exact hlt)
          rw [sumPart_get _ _ hlt, if_neg (by omega)] at hc
          have hf := q0.frozen k
          have HS := Lib.hid (show Row (wr.setCell ⟨w.heap.size, k, none⟩ (.int .u32 (addI ([a, b, c, d, e, f, g, h].getD k 0) ([x0, x1, x2, x3, x4, x5, x6, x7].getD k 0)))) w.heap.size 81 .u32 (sumPart [a, b, c, d, e, f, g, h] [x0, x1, x2, x3, x4, x5, x6, x7] (k + 1)) by
            rw [sumPart_step _ _ hlt]; exact q0.set _ (wf_u32 (r32_add _ _)))
          have hlt' : (k : Int) < 8 := by omega
          have hk0 : (0 : Int) ≤ (k : Int) := by omega
          generalize [a, b, c, d, e, f, g, h].getD k 0 = x at hc HS
          generalize [x0, x1, x2, x3, x4, x5, x6, x7].getD k 0 = y at hidx HS
          go_wp2_with fail
          go_roundw
          case rel => exact ⟨k + 1, by omega, by go_num, hbl.setCell (Nat.le_refl _) _, HS.out, q2.other (by simp; omega) _⟩
          case measure => simp [intOf]; omega
        · have hk8 : k = 8 := by omega
          subst hk8
          rw [sumPart_end, HB.out] at q0
          have L8 : (Sum.block [a, b, c, d, e, f, g, h] bs).length = 8 := (Eight.sumUp _ _).1
          have L8h := Lib.hid L8
          clear L8
          go_wp2_with (first
            | (refine wpList_load_Row rfl 81 _ rfl w.heap.size rfl 81 .u32 _ q0 8 38 Tryd.underlying81 info_8 L8h.out ?_)
            | (refine wpList_store_Row rfl 81 _ _ rfl (w.heap.size + 1 + 1) rfl 81 .u32 _ _ rfl q2 8 info_8 L8h.out rfl ?_))
          have q4 := q2.setRow q0.1
          try rw [Exit.noGoto_ret]
          refine bodyPost_ret (v := .agg (arr .u32 (Sum.block [a, b, c, d, e, f, g, h] bs))) (results_Row rfl _ _ (w.heap.size + 1 + 1) _ _ _ rfl q4 8 38 Tryd.underlying81 info_8 L8h.out) rfl ?_
          exact ⟨rfl, hbl.grown (grown_setRow _ _ _) hbl.size (fun r e => by cases e; omega)⟩
end Go.Proofs.YtoelgcdjhekafaaDoor.Sha
namespace Go.Proofs.YtoelgcdjhekafaaDoor.Sha
open Go.RowKit Go.Proofs.YtoelgcdjhekafaaDoor.Mem Go.Proofs.YtoelgcdjhekafaaDoor.Help Go.Proofs.YtoelgcdjhekafaaDoor.Sum
set_option linter.unusedVariables false

/-- the last k of the len places from off on are written, the lowest byte last -/
def putL (zs : List Int) (off len : Nat) (x : Int) (k : Nat) : List Int :=
  (List.range zs.length).map fun j => if off + len - k ≤ j ∧ j < off + len then x / 2 ^ (8 * (off + len - 1 - j)) % 256 else zs.getD j 0
theorem putL_length (zs : List Int) (off len : Nat) (x : Int) (k : Nat) : (putL zs off len x k).length = zs.length := by simp [putL]
theorem putL_start (zs : List Int) (off len : Nat) (x : Int) : putL zs off len x 0 = zs := by
  apply List.ext_getElem (by rw [putL_length])
  intro i h1 h2
  simp only [putL, List.getElem_map, List.getElem_range]
  rw [if_neg (by omega)]
  simp [List.getD_eq_getElem?_getD, h2]
theorem putL_step (zs : List Int) (off len : Nat) (x : Int) {k : Nat} (hk : k < len) : putL zs off len x (k + 1) = (putL zs off len x k).set (off + (len - 1 - k)) (x / 2 ^ (8 * k) % 256) := by
  apply List.ext_getElem (by rw [List.length_set, putL_length, putL_length])
  intro i h1 h2
  rw [List.getElem_set]
  by_cases e : off + (len - 1 - k) = i
  · subst e
    rw [if_pos rfl]
    simp only [putL, List.getElem_map, List.getElem_range]
    rw [if_pos (by omega)]
    congr 3
    omega
  · rw [if_neg e]
    simp only [putL, List.getElem_map, List.getElem_range]
    by_cases q : off + len - k ≤ i ∧ i < off + len
    · rw [if_pos (by omega), if_pos q]
    · rw [if_neg (by omega), if_neg q]

theorem put_any (g off len cap : Nat) (t : TypeId) (zs : List Int) (x : Int) (w : World) (hx : 0 ≤ x) (hx' : x < 18446744073709551616) (hr : Row w g t .u8 zs) (hl : off + len ≤ zs.length) (hn : len ≤ 8) :
    Calls Tryd.prog 68 #[.slice (some ⟨g, off, none⟩) len cap, .int .u64 x] w fun e w' => e = .returned (.tuple #[]) ∧ Row w' g t .u8 (putL zs off len x len) ∧ w.grownBy w' (some g) := by
  go_enter Tryd.func68, Tryd.ntmps68
  go_wp2_with fail
  go_loopw [7] (fun i wr => ∃ k : Nat, k ≤ len ∧ i = .int .i64 k ∧ w.grownBy wr (some g) ∧ Row wr g t .u8 (putL zs off len x k)) (fun i _ => len - (intOf i).toNat)
  case atStart => exact ⟨0, by omega, rfl, World.grownBy.refl _ _, by rw [putL_start]; exact hr⟩
  case round =>
    obtain ⟨k, hk, rfl, hg, hq⟩ := hrel
    by_cases hlt : k < len
    · have HS := Lib.hid (show Row (wr.setCell ⟨g, off + (len - 1 - k), none⟩ (.int .u8 (x / 2 ^ (8 * k) % 256))) g t .u8 (putL zs off len x (k + 1)) by
        rw [putL_step _ _ _ _ hlt]
        exact hq.set _ (by simp [Lit.wf, IntKind.min, IntKind.max, IntKind.signed, IntKind.bits]; omega))
      obtain ⟨old, hc⟩ : ∃ old, wr.cell? ⟨g, off + (len - 1 - k), none⟩ = some old := ⟨_, hq.cell (by rw [putL_length]; omega)⟩
      have hf := hq.frozen (off + (len - 1 - k))
      have hlt' : (k : Int) < (len : Int) := by omega
      have hk0 : (0 : Int) ≤ (k : Int) := by omega
      have hk7 : (k : Int) ≤ 7 := by omega
      have hn8 : (len : Int) ≤ 8 := by omega
      have e1 := Lib.hid (show (len : Int) - 1 - (k : Int) = ((len - 1 - k : Nat) : Int) by omega)
      go_wp2_with fail
      go_roundw
      case rel => exact ⟨k + 1, by omega, by go_num, hg.trans (grown_setCell _ _ _ _), HS.out⟩
      case measure => simp [intOf]; omega
    · have hkl : k = len := by omega
      subst hkl
      go_wp2_with fail
      go_end0
      exact ⟨rfl, hq, hg⟩
theorem pad_eq (n : Nat) (hn : n ≤ 17592186044416) :
    putL ((List.replicate (9 + (119 - n % 64) % 64) (0 : Int)).set 0 128) (1 + (119 - n % 64) % 64) 8 ((n : Int) * 8) 8 = padI n := by
  apply List.ext_getElem (by rw [putL_length, pad_length]; simp)
  intro i h1 h2
  rw [putL_length] at h1
  simp only [putL, List.getElem_map, List.getElem_range, padI]
  by_cases q : 1 + (119 - n % 64) % 64 ≤ i ∧ i < 1 + (119 - n % 64) % 64 + 8
  · rw [if_pos (by omega), List.getElem_cons, dif_neg (by omega), List.getElem_append_right (by simp; omega)]
    simp only [List.length_replicate, List.getElem_map, List.getElem_range]
    have e : 8 * (1 + (119 - n % 64) % 64 + 8 - 1 - i) = 56 - 8 * (i - 1 - (119 - n % 64) % 64) := by omega
    rw [e]
    congr 2
    omega
  · simp only [List.length_set, List.length_replicate] at h1
    rw [if_neg (by omega)]
    by_cases z : i = 0
    · subst z
      simp [List.getD_eq_getElem?_getD, show 0 < 9 + (119 - n % 64) % 64 by omega]
    · rw [List.getElem_cons, dif_neg z, List.getElem_append_left (by simp; omega)]
      simp only [List.getElem_replicate, List.getD_eq_getElem?_getD]
      rw [List.getElem?_set_ne (by omega)]
      simp [h1]

theorem pad_any (N : Int) (n : Nat) (w : World) (hN : (n : Int) = max N 0) (hn : n ≤ 17592186044416) :
    Calls Tryd.prog 78 #[.int .i64 N] w fun e w' => e = .returned (.slice (some ⟨w.heap.size, 0, none⟩) (padI n).length (padI n).length) ∧ Row w' w.heap.size 5 .u8 (padI n) ∧ Below w.heap.size w w' := by
  have E := Lib.hid (pad_eq n hn)
  have L := Lib.hid (pad_length n)
  have HB := Lib.hid (pad_bytes n)
  obtain ⟨z, hz⟩ : ∃ z, (119 - n % 64) % 64 = z := ⟨_, rfl⟩
  have hz64 : z < 64 := by omega
  have HZ := Lib.hid (show (119 - (n : Int) % 64) % 64 = (z : Int) by omega)
  rw [hz] at E L
  by_cases hneg : N < 0
  · have e : n = 0 := by omega
    subst e
    have hz55 : z = 55 := by omega
    subst hz55
    have hmx : ¬ (0 : Int) ≤ N := by omega
    clear hN hz HZ
    go_enter Tryd.func78, Tryd.ntmps78
    go_wp2_with (refine wpList_make_Row _ rfl _ _ 34 rfl 5 .u8 1 Tryd.underlying34 info_u8 .i64 .i64 _ _ 64 rfl rfl (by omega) (by omega) (by omega) (by omega) ?_; intro w1 hr1 hg1 hs1; obtain ⟨old, hc0⟩ : ∃ old, w1.cell? ⟨w.heap.size, 0, none⟩ = some old := ⟨_, hr1.cell (by simp)⟩; have hf0 := hr1.frozen 0)
    have hr2 := hr1.set 0 (z := 128) (by decide)
    have hb2 : Below w.heap.size w (w1.setCell ⟨w.heap.size, 0, none⟩ (.int .u8 128)) := ((Below.refl _ w).grown hg1 (Nat.le_refl _) (by simp)).setCell (Nat.le_refl _) _
    refine (put_any _ _ 8 8 _ _ _ _ (by omega) (by omega) hr2 (by simp) (by omega)).mono ?_
    rintro e w2 ⟨rfl, hr3, hg3⟩
    have E' := E.out
    simp only [Int.natCast_zero, Int.zero_mul] at E'
    rw [show (64 : Nat) = 9 + 55 from rfl, show (56 : Nat) = 1 + 55 from rfl, E'] at hr3
    have hb3 := hb2.grown hg3 (by simp [World.setCell]; omega) (fun r e => by cases e; exact Nat.le_refl _)
    clear hr2 hb2 hg3 E'
    go_wp2_with fail
    go_ret
    have e9 : 64 = (padI 0).length := L.out.symm
    refine ⟨?_, hr3, hb3⟩
    rw [← e9]
    rfl
  · have e : N = (n : Int) := by omega
    subst e
    have hnn : (n : Int) ≤ 17592186044416 := by omega
    have hn0 : (0 : Int) ≤ (n : Int) := by omega
    have hz1 : (119 - (n : Int)) % 64 = (z : Int) := by omega
    have hz2 : (119 - (n : Int) % 64) % 64 = (z : Int) := by omega
    have hzi : (z : Int) < 64 := by omega
    clear hN hz hneg HZ
    have u8w : ∀ y ∈ (List.replicate (9 + z) (0 : Int)), (Lit.int .u8 y).wf = true := fun y hy => by rw [List.eq_of_mem_replicate hy]; rfl
    go_enter Tryd.func78, Tryd.ntmps78
    go_wp2_with (refine wpList_make_Row _ rfl _ _ 34 rfl 5 .u8 1 Tryd.underlying34 info_u8 .i64 .i64 _ _ (9 + z) rfl rfl (by omega) (by omega) (by omega) (by omega) ?_; intro w1 hr1 hg1 hs1; obtain ⟨old, hc0⟩ : ∃ old, w1.cell? ⟨w.heap.size, 0, none⟩ = some old := ⟨_, hr1.cell (by simp; omega)⟩; have hf0 := hr1.frozen 0)
    have hr2 := hr1.set 0 (z := 128) (by decide)
    have hb2 : Below w.heap.size w (w1.setCell ⟨w.heap.size, 0, none⟩ (.int .u8 128)) := ((Below.refl _ w).grown hg1 (Nat.le_refl _) (by simp)).setCell (Nat.le_refl _) _
    have e8 : 9 + z - (1 + z) = 8 := by omega
    rw [e8]
    refine (put_any _ _ 8 8 _ _ _ _ (by omega) (by omega) hr2 (by simp; omega) (by omega)).mono ?_
    rintro e w2 ⟨rfl, hr3, hg3⟩
    rw [E.out] at hr3
    have hb3 := hb2.grown hg3 (by simp [World.setCell]; omega) (fun r e => by cases e; exact Nat.le_refl _)
    clear hr2 hb2 hg3 e8
    go_wp2_with fail
    go_ret
    have e9 : 9 + z = (padI n).length := L.out.symm
    refine ⟨?_, hr3, hb3⟩
    rw [← e9]
    rfl

theorem info_k : (Tryd.prog.info? 79).map (·.size) = some 64 := by kernel_rfl
theorem wf_K : ∀ z ∈ Sum.K, (Lit.int .u32 z).wf = true := by decide +kernel

set_option maxRecDepth 100000 in
theorem rwords_any (w : World) :
    Calls Tryd.prog 56 #[] w fun e w' => e = .returned (.agg (arr .u32 Sum.K)) ∧ Below w.heap.size w w' := by
  have r0 := Row.new (zs := List.replicate 64 0) (k := .u32) w 79 (fun z hz => by rw [List.eq_of_mem_replicate hz]; rfl)
  go_enter Tryd.func56, Tryd.ntmps56
  go_wp2_with (first
    | (refine wpList_build_Row rfl 79 _ rfl .u32 Sum.K (by kernel_rfl) ?_)
    | (refine wpList_store_Row rfl 79 _ _ rfl w.heap.size rfl 79 .u32 _ Sum.K rfl r0 64 info_k rfl rfl ?_))
  have r1 := r0.setRow wf_K
  refine bodyPost_ret (v := .agg (arr .u32 Sum.K)) (results_Row rfl _ _ w.heap.size _ _ _ rfl r1 64 38 Tryd.underlying79 info_k rfl) rfl ?_
  exact ⟨rfl, ((Below.refl _ w).alloc (Nat.le_refl _) _).grown (grown_setRow _ _ _) (by simp) (fun r e => by cases e; exact Nat.le_refl _)⟩
end Go.Proofs.YtoelgcdjhekafaaDoor.Sha
namespace Go.Proofs.YtoelgcdjhekafaaDoor.Mem
open Go.RowKit
set_option linter.unusedVariables false

/-- the slice at A, of n cells, below block B, reads as the list vs -/
def Vals (w : World) (B : Nat) (A : Option Addr) (n : Nat) (vs : List Value) : Prop :=
  vs.length = n ∧ (∀ v ∈ vs, v.oneCell' = true) ∧ (0 < n → ∃ b off, A = some ⟨b, off, none⟩ ∧ b < B ∧ ∀ i, i < n → w.cell? ⟨b, off + i, none⟩ = some (vs.getD i undef))

section
variable {w w' : World} {B B' n : Nat} {A : Option Addr} {vs : List Value}
theorem Vals.nil (w : World) (B : Nat) (A : Option Addr) : Vals w B A 0 [] := ⟨rfl, by simp, fun h => absurd h (by omega)⟩
theorem Vals.keep (h : Vals w B A n vs) (hk : ∀ p : Addr, p.block < B → w'.cell? p = w.cell? p) : Vals w' B A n vs :=
  ⟨h.1, h.2.1, fun hn => by
    obtain ⟨b, off, e, hb, hc⟩ := h.2.2 hn
    exact ⟨b, off, e, hb, fun i hi => (hk ⟨b, off + i, none⟩ hb).trans (hc i hi)⟩⟩
theorem Vals.more (h : Vals w B A n vs) (hB : B ≤ B') : Vals w B' A n vs :=
  ⟨h.1, h.2.1, fun hn => by
    obtain ⟨b, off, e, hb, hc⟩ := h.2.2 hn
    exact ⟨b, off, e, by omega, hc⟩⟩
theorem Vals.below (h : Vals w B A n vs) (hb : Below B w w') : Vals w' B A n vs := h.keep fun _ hp => hb.cell hp
theorem Vals.drewN (h : Vals w B A n vs) (m : Nat) : Vals (w.drewN m) B A n vs := h
theorem Vals.alloc (h : Vals w B A n vs) (hB : B ≤ w.heap.size) (o : Obj) : Vals (w.alloc o) B A n vs := h.keep fun p hp => World.cell?_alloc_lt w o p (by omega)
theorem Vals.at_ (h : Vals w B A n vs) {i : Nat} (hi : i < n) : ∃ b off, A = some ⟨b, off, none⟩ ∧ b < B ∧ w.cell? ⟨b, off + i, none⟩ = some (vs.getD i undef) := by
  obtain ⟨b, off, e, hb, hc⟩ := h.2.2 (by omega)
  exact ⟨b, off, e, hb, hc i hi⟩
end

theorem Vals.new (w : World) (t : TypeId) (vs : List Value) (h1 : ∀ v ∈ vs, v.oneCell' = true) : Vals (w.alloc (.cells vs.toArray t)) (w.heap.size + 1) (some ⟨w.heap.size, 0, none⟩) vs.length vs :=
  ⟨rfl, h1, fun hn => ⟨w.heap.size, 0, rfl, by omega, fun i hi => by
    rw [cell_of_row _ _ _ _ t (0, 0) (heap_alloc_new w _)]
    simp [List.getD_eq_getElem?_getD, hi]⟩⟩

theorem ownsRow_vals {w : World} {base : Nat} {e : TypeId} {A : Option Addr} {n c : Nat} {vs : List Value} (h : w.ownsRow base e 1 (.slice A n c) n vs) (h1 : ∀ v ∈ vs, v.oneCell' = true) : Vals w w.heap.size A n vs := by
  have hl : vs.length = n := by simpa using h.1
  refine ⟨hl, h1, fun hn => ?_⟩
  rcases h.2 with ⟨hv, h0⟩ | ⟨g, cap, cur, hv, hb, hg, hnc, hcm, hcs, ht⟩
  · omega
  · injection hv with e1 e2 e3
    subst e1
    refine ⟨g, 0, rfl, (Array.getElem?_eq_some_iff.1 hg).1, fun i hi => ?_⟩
    have hc := h.cells (g := g) rfl i (vs.getD i undef) (by simp [List.getD_eq_getElem?_getD, show i < vs.length by omega])
    have e : (Addr.mk g 0 none).add i = ⟨g, 0 + i, none⟩ := by unfold Addr.add; split <;> simp_all
    rwa [e] at hc

/-- append, of a list of values (nil or not), onto what the call owns -/
theorem run_append_vals {P : Program} (w : World) (base : Nat) (ts ty e : TypeId) (z : Value) (bytes : Nat) (ht : P.underlying ts = some (.slice e))
    (hinfo : (P.info? e).map (fun i => (i.zero, i.size, i.bytes)) = some (some z, 1, bytes)) (hzc : z.cells.size = 1) (v : Value) (n : Nat) (zs : List Value) (hown : w.ownsRow base e 1 v n zs)
    (B : Nat) (A : Option Addr) (m c : Nat) (xs : List Value) (hr : Vals w B A m xs) (hlen : n + m ≤ 1099511627776) (hby : bytes ≤ 64) (hbase : base ≤ w.heap.size) :
    ∃ v' w', (Builtin.append_ #[ts, ts] ty #[v, .slice A m c]).run P w = .ok v' w' ∧ w'.ownsRow base e 1 v' (n + m) (zs ++ xs) ∧ w.grownBy w' v.ownBlock ∧
      (v'.ownBlock = v.ownBlock ∨ v'.ownBlock = some w.heap.size) := by
  obtain ⟨i, hi, hz, hsz, hb⟩ := info_parts hinfo
  have hxl := hr.1
  rcases A with _ | ad
  · have hm : m = 0 := by
      rcases Nat.eq_zero_or_pos m with h0 | h0
      · exact h0
      · obtain ⟨_, _, h, _⟩ := hr.2.2 h0
        cases h
    subst hm
    have hx : xs = [] := List.eq_nil_of_length_eq_zero hxl
    subst hx
    refine ⟨v, w, ?_, by simpa using hown, World.grownBy.refl w _, .inl rfl⟩
    rcases hown.2 with ⟨rfl, hn0⟩ | ⟨g, cap, cur, rfl, _, _, hnc, _⟩
    · simp [Builtin.append_, run_underlying ht, sizeOf, typeInfo, hi, Builtin.lenOf, Builtin.firstCells]
    · simp [Builtin.append_, run_underlying ht, sizeOf, typeInfo, hi, Builtin.lenOf, Builtin.firstCells, hnc, storeCells]
  · have hcells : ∀ j u, xs[j]? = some u → w.cell? (ad.add j) = some u := by
      intro j u hu
      have hj : j < m := by
        have := (List.getElem?_eq_some_iff.1 hu).1
        omega
      obtain ⟨b, off, h, _, hc⟩ := hr.at_ hj
      injection h with h
      subst h
      have e : (Addr.mk b off none).add j = ⟨b, off + j, none⟩ := by unfold Addr.add; split <;> simp_all
      rw [e, hc, ← hu]
      simp [List.getD_eq_getElem?_getD, show j < xs.length by omega]
    obtain ⟨v', w', hrun, h2, h3, _, h5⟩ := run_append_own_at (P := P) w base ts ty e i z 1 bytes ht hi hz hsz hb hzc (by omega) v n zs hown ad m c
      xs (by simp [hxl]) hcells hr.2.1 (by simp only [maxLen]; omega) (Nat.le_trans (Nat.mul_le_mul hlen hby) (by omega)) hbase
    exact ⟨v', w', hrun, h2, h3, h5⟩

theorem wpList_append_vals {P : Program} (w : World) {ops : Array Oper} {rest : List Oper} {o : Oper} {a : Act} {Q : Exit → Act → World → Prop} (hgd : o.guard = none) (s x : Operand) (ts : TypeId)
    (ho : o.op = .call { callee := .builtin .append, args := #[s, x], argTypes := #[ts, ts] }) (base : Nat) (e : TypeId) (z : Value) (bytes : Nat) (ht : P.underlying ts = some (.slice e))
    (hinfo : (P.info? e).map (fun i => (i.zero, i.size, i.bytes)) = some (some z, 1, bytes)) (hzc : z.cells.size = 1) (v : Value) (n : Nat) (zs : List Value) (hs : a.eval s = v) (hown : w.ownsRow base e 1 v n zs)
    (B : Nat) (A : Option Addr) (m c : Nat) (xs : List Value) (hx : a.eval x = .slice A m c) (hr : Vals w B A m xs) (hlen : n + m ≤ 1099511627776) (hby : bytes ≤ 64) (hbase : base ≤ w.heap.size)
    (h : ∀ v' w', w'.ownsRow base e 1 v' (n + m) (zs ++ xs) → w.grownBy w' v.ownBlock → (v'.ownBlock = v.ownBlock ∨ v'.ownBlock = some w.heap.size) → wpList P ops Q rest (a.put o.dst v') w') :
    wpList P ops Q (o :: rest) a w := by
  obtain ⟨v', w', hrun, h2, h3, h4⟩ := run_append_vals (P := P) w base ts o.type e z bytes ht hinfo hzc v n zs hown B A m c xs hr hlen hby hbase
  exact Lib.wpList_append_run w hgd s x ts ts ho v (.slice A m c) hs hx v' w' hrun (h v' w' h2 h3 h4)

/-- room for n, made of nothing -/
theorem run_grow_nil {P : Program} (w : World) (t tn ty e : TypeId) (z : Value) (bytes : Nat) (kn : IntKind) (ht : P.underlying t = some (.slice e)) (htn : P.underlying tn = some (.int kn))
    (hinfo : (P.info? e).map (fun i => (i.zero, i.size, i.bytes)) = some (some z, 1, bytes)) (hzc : z.cells.size = 1) (n : Nat) (h0 : 0 < n) (hn : n ≤ 1099511627776) (hby : bytes ≤ 64) :
    ∃ cap w', (Builtin.append_ #[t, tn] ty #[.slice none 0 0, .int .i64 (n : Int)]).run P w = .ok (.slice (some ⟨w.heap.size, 0, none⟩) n cap) w' ∧ n ≤ cap ∧ w'.ownsRow w.heap.size e 1 (.slice (some ⟨w.heap.size, 0, none⟩) 0 cap) 0 [] ∧ w.grownBy w' none ∧ cap ≤ maxLen := by
  obtain ⟨i, hi, hz, hsz, hb⟩ := info_parts hinfo
  have hge := grownCap_ge w n 0 e
  have hle := grownCap_le_maxLen w n 0 e (by unfold maxLen; omega)
  have hrun := Lib.run_append_nil_zeros (P := P) w t tn ty e i z .i64 kn ht htn hi hz n h0 (by omega) (by omega) (by rw [hb]; exact Nat.le_trans (Nat.mul_le_mul hn hby) (by omega))
  refine ⟨_, _, hrun, hge, ⟨rfl, .inr ⟨w.heap.size, _, _, rfl, Nat.le_refl _, heap_alloc_new w.drew _, Nat.zero_le _, hle, ?_, rfl⟩⟩, ⟨rfl, rfl, rfl, by simp, fun k hk _ => Below.heap_alloc w.drew _ k hk⟩, hle⟩
  simp only [Array.size_append, size_zeroCells, hzc, Nat.mul_one]
  omega
end Go.Proofs.YtoelgcdjhekafaaDoor.Mem
namespace Go.Proofs.YtoelgcdjhekafaaDoor.Sha
open Go.RowKit Go.Proofs.YtoelgcdjhekafaaDoor.Mem Go.Proofs.YtoelgcdjhekafaaDoor.Help Go.Proofs.YtoelgcdjhekafaaDoor.Sum
set_option linter.unusedVariables false

theorem info_bytes : (Tryd.prog.info? 34).map (fun i => (i.zero, i.size, i.bytes)) = some (some (.slice none 0 0), 1, 24) := by kernel_rfl

theorem ownBlock_ge {base n size : Nat} {v : Value} {w : World} {e : TypeId} {xs : List Value}
    (h : (v = .slice none 0 0 ∧ n = 0) ∨ ∃ g cap cur, v = .slice (some ⟨g, 0, none⟩) n cap ∧ base ≤ g ∧ w.heap[g]? = some (.cells cur e (0, 0)) ∧ n ≤ cap ∧ cap ≤ maxLen ∧ cur.size = cap * size ∧ cur.toList.take (n * size) = xs) {r : Nat}
    (hr : v.ownBlock = some r) : base ≤ r := by
  rcases h with ⟨rfl, _⟩ | ⟨g, cap, cur, rfl, hb, _⟩
  · simp [Value.ownBlock] at hr
  · simp only [Value.ownBlock, Option.some.injEq] at hr
    omega

set_option maxRecDepth 100000 in
theorem grow_any (n : Nat) (w : World) (h0 : 0 < n) (hn : n ≤ 1099511627776) :
    Calls Tryd.prog 80 #[.slice none 0 0, .int .i64 (n : Int)] w fun e w' => ∃ cap, e = .returned (.slice (some ⟨w.heap.size, 0, none⟩) 0 cap) ∧ n ≤ cap ∧
      w'.ownsRow w.heap.size 34 1 (.slice (some ⟨w.heap.size, 0, none⟩) 0 cap) 0 [] ∧ w.grownBy w' none := by
  obtain ⟨cap, w1, hrun, hc, hown, hg, hm⟩ := run_grow_nil (P := Tryd.prog) w 85 3 85 34 (.slice none 0 0) 24 .i64 Tryd.underlying85 Tryd.underlying3 info_bytes rfl n h0 hn (by omega)
  have hn' : (n : Int) ≤ 1099511627776 := by omega
  have h0' : (0 : Int) < (n : Int) := by omega
  go_enter Tryd.func80, Tryd.ntmps80
  go_wp2_with (at_builtin; refine Lib.wpList_append_run _ rfl _ _ 85 3 rfl _ _ rfl rfl _ _ hrun ?_)
  go_ret
  exact ⟨cap, rfl, hc, hown, hg⟩

theorem concat_any (B : Nat) (A A0 A1 : Option Addr) (c n0 n1 c0 c1 : Nat) (vs0 vs1 : List Value) (w : World) (h : Vals w B A 2 [.slice A0 n0 c0, .slice A1 n1 c1]) (h0 : Vals w B A0 n0 vs0) (h1 : Vals w B A1 n1 vs1) (hB : B ≤ w.heap.size)
    (hn0 : n0 ≤ 68719476736) (hn1 : n1 ≤ 68719476736) (hp : 0 < n0 + n1) :
    Calls Tryd.prog 77 #[.slice A 2 c] w fun e w' => ∃ v, e = .returned v ∧ w'.ownsRow w.heap.size 34 1 v (n0 + n1) (vs0 ++ vs1) ∧ Below w.heap.size w w' := by
  obtain ⟨b, off, rfl, hb, ca⟩ := h.at_ (i := 0) (by omega)
  obtain ⟨b', off', e', hb', cb⟩ := h.at_ (i := 1) (by omega)
  injection e' with e'
  injection e' with e1 e2
  subst e1
  subst e2
  clear h
  simp only [List.getD_eq_getElem?_getD, List.getElem?_cons_zero, List.getElem?_cons_succ, Option.getD_some, Nat.add_zero] at ca cb
  have hn0' : (n0 : Int) ≤ 68719476736 := by omega
  have hn1' : (n1 : Int) ≤ 68719476736 := by omega
  go_enter Tryd.func77, Tryd.ntmps77
  go_wp2_with fail
  go_loop [3, 11] (fun s i => (i = .int .i64 0 ∧ s = .int .i64 0) ∨ (i = .int .i64 1 ∧ s = .int .i64 (n0 : Int)) ∨ (i = .int .i64 2 ∧ s = .int .i64 ((n0 : Int) + n1))) (fun _ i => 2 - (intOf i).toNat)
  case atStart => exact .inl ⟨rfl, rfl⟩
  case round =>
    rcases hrel with ⟨rfl, rfl⟩ | ⟨rfl, rfl⟩ | ⟨rfl, rfl⟩
    · go_wp2_with fail
      go_round
      case rel => exact .inr (.inl ⟨rfl, rfl⟩)
      case measure => simp [intOf]
    · go_wp2_with fail
      go_round
      case rel => exact .inr (.inr ⟨rfl, rfl⟩)
      case measure => simp [intOf]
    · go_wp2_with fail
      have en : (n0 : Int) + (n1 : Int) = ((n0 + n1 : Nat) : Int) := by omega
      rw [en]
      refine (grow_any (n0 + n1) _ hp (by omega)).mono ?_
      rintro e w1 ⟨cap, rfl, hcap, hown, hg⟩
      have s1 := hg.size
      have hb1 : Below w.heap.size w w1 := (Below.refl _ w).grown hg (Nat.le_refl _) (by simp)
      clear en hg
      go_wp2_with fail
      go_loopw [6, 27] (fun v i wr => Below w.heap.size w wr ∧ w1.heap.size ≤ wr.heap.size ∧ ((i = .int .i64 0 ∧ wr.ownsRow w.heap.size 34 1 v 0 []) ∨ (i = .int .i64 1 ∧ wr.ownsRow w.heap.size 34 1 v n0 vs0) ∨ (i = .int .i64 2 ∧ wr.ownsRow w.heap.size 34 1 v (n0 + n1) (vs0 ++ vs1)))) (fun _ i _ => 2 - (intOf i).toNat)
      case atStart => exact ⟨hb1, Nat.le_refl _, .inl ⟨rfl, hown⟩⟩
      case round =>
        obtain ⟨hbl, hs, hrel⟩ := hrel
        have ca1 := (hbl.cell (p := ⟨b, off, none⟩) (by show b < _; omega)).trans ca
        have cb1 := (hbl.cell (p := ⟨b, off + 1, none⟩) (by show b < _; omega)).trans cb
        have v0 := (h0.more hB).below hbl
        have v1 := (h1.more hB).below hbl
        have hz := hbl.size
        clear ca cb h0 h1 hb1 hown
        rcases hrel with ⟨rfl, hown⟩ | ⟨rfl, hown⟩ | ⟨rfl, hown⟩
        · go_wp2_with (at_builtin; refine wpList_append_vals _ rfl _ _ 85 rfl w.heap.size 34 (.slice none 0 0) 24 Tryd.underlying85 info_bytes rfl _ 0 [] rfl hown w.heap.size A0 n0 c0 vs0 rfl v0 (by omega) (by omega) hz ?_; intro v' w' hown' hg' hat')
          go_roundw
          case rel => exact ⟨hbl.grown hg' hz (fun r e => ownBlock_ge hown.2 e), by have := hg'.size; omega, .inr (.inl ⟨rfl, by simpa using hown'⟩)⟩
          case measure => simp [intOf]
        · go_wp2_with (at_builtin; refine wpList_append_vals _ rfl _ _ 85 rfl w.heap.size 34 (.slice none 0 0) 24 Tryd.underlying85 info_bytes rfl _ n0 vs0 rfl hown w.heap.size A1 n1 c1 vs1 rfl v1 (by omega) (by omega) hz ?_; intro v' w' hown' hg' hat')
          go_roundw
          case rel => exact ⟨hbl.grown hg' hz (fun r e => ownBlock_ge hown.2 e), by have := hg'.size; omega, .inr (.inr ⟨rfl, hown'⟩)⟩
          case measure => simp [intOf]
        · go_wp2_with fail
          go_ret
          exact ⟨_, rfl, hown, hbl⟩
end Go.Proofs.YtoelgcdjhekafaaDoor.Sha
